/-
  7 texts in one. No statement of the seat is proved here.
-/
import Derived.Test.YtfknplcnfpincaaGreatG14
import Derived.Deep.RegionLaw
import Derived.BigRegion
/-
  The contract of the reference's Same: it tells whether two rows of bytes are equal, and turns nothing. No condition.
-/
namespace Go.Proofs.YtfknplcnfpincaaGreat
open Go.RowKit

theorem bt_inj {l m : List UInt8} (h : l.length = m.length) (k : ∀ i, i < l.length → bt l i = bt m i) : l = m := by
  apply List.ext_getElem h
  intro i h1 h2
  have := k i h1
  unfold bt at this
  simp [List.getD_eq_getElem?_getD, h1, h2] at this
  exact UInt8.toNat_inj.1 (by omega)

theorem same_step {l m : List UInt8} {k : Nat} (H : Hid (∀ j, j < k → bt l j = bt m j)) (h : (bt l k != bt m k) = false) (j : Nat) (hj : j < k + 1) : bt l j = bt m j := by
  by_cases e : j = k
  · subst e; simpa using h
  · exact H.out j (by omega)
theorem same_no {l m : List UInt8} {k : Nat} (h : (bt l k != bt m k) = true) : false = decide (l = m) := by
  symm
  rw [decide_eq_false_iff_not]
  intro e
  subst e
  simp at h
theorem same_yes {l m : List UInt8} {n k : Nat} (H : Hid (l.length = n ∧ m.length = n)) (h : ¬ k < n) (hj : ∀ j, j < k → bt l j = bt m j) : true = decide (l = m) := by
  symm
  rw [decide_eq_true_iff]
  obtain ⟨h1, h2⟩ := H.out
  exact bt_inj (by omega) fun i hi => hj i (by omega)

set_option maxHeartbeats 400000 in
theorem rSame (w : World) {a b : Option Addr} {n c n' c' : Nat} {l m : List UInt8} (ha : Bs w a n c l) (hb : Bs w b n' c' m) :
    Calls Tryz.prog 13 #[.slice a n c, .slice b n' c'] w fun e w' => e = .returned (.bool (decide (l = m))) ∧ ∃ k, w' = w.drewN k := by
  have h1 := ha.max
  have h2 := hb.max
  by_cases hn : n = n'
  · subst hn
    by_cases h0 : n = 0
    · subst h0
      have e : decide (l = m) = true := by
        have e1 := ha.len
        have e2 := hb.len
        simp at e1 e2
        simp [e1, e2]
      rw [e]
      clear e ha hb
      go_enter Tryz.func13, Tryz.ntmps13
      go_wp2
      refine wp_loop_rounds 1 ?_; rw [rounds_succ]; go_wp2
      go_ret
      exact ⟨rfl, 0, rfl⟩
    · obtain ⟨x, o, rfl, hx, hc⟩ := ha.at (by omega)
      obtain ⟨y, q, rfl, hy, hd⟩ := hb.at (by omega)
      have e1 := ha.len
      have e2 := hb.len
      have H : Hid (l.length = n ∧ m.length = n) := ⟨e1, e2⟩
      clear e1 e2 ha hb
      go_enter Tryz.func13, Tryz.ntmps13
      go_wp2
      go_loopw [5] (fun i wr => ∃ k : Nat, k ≤ n ∧ i = .int .i64 k ∧ (∃ d, wr = w.drewN d) ∧ ∀ j, j < k → bt l j = bt m j) (fun i _ => n - (intOf i).toNat)
      case atStart => exact ⟨0, Nat.zero_le _, rfl, ⟨0, rfl⟩, fun j hj => by omega⟩
      case round =>
        obtain ⟨k, hk, rfl, ⟨d, rfl⟩, hj⟩ := hrel
        by_cases hlt : k < n
        · have c1 := hc k hlt
          have c2 := hd k hlt
          have H2 : Hid (∀ j, j < k → bt l j = bt m j) := hj
          clear hj hc hd
          by_cases hq : bt l k = bt m k
          · have hq' : (bt l k != bt m k) = false := by simp [hq]
            clear hq
            go_wp2
            go_quiet (fail)
            go_wp2
            go_roundw
            case rel => exact ⟨k + 1, by omega, by go_num, ⟨_, rfl⟩, fun j hj => same_step H2 hq' j hj⟩
            case measure => simp [intOf]; omega
          · have hq' : (bt l k != bt m k) = true := by simp [hq]
            clear hq
            go_wp2
            go_quiet (fail)
            go_wp2
            go_ret
            exact ⟨ret_bool (same_no hq'), _, World.drewN_drewN _ _ _⟩
        · go_wp2
          go_ret
          exact ⟨ret_bool (same_yes H hlt hj), d, rfl⟩
  · have hq' : ((n : Int) != (n' : Int)) = true := by simp; omega
    have e : decide (l = m) = false := by
      have e1 := ha.len
      have e2 := hb.len
      simp
      intro h
      rw [h] at e1
      omega
    rw [e]
    clear e ha hb
    go_enter Tryz.func13, Tryz.ntmps13
    go_wp2
    go_ret
    exact ⟨rfl, 0, rfl⟩
end Go.Proofs.YtfknplcnfpincaaGreat

/-
  Two like rows held against each other. No condition; no statement of the seat is proved here.
-/
namespace Go.Proofs.YtfknplcnfpincaaGreat
open Go.RowKit

theorem sameT (w : World) {a b : Option Addr} {n c n' c' : Nat} {l : List UInt8} (ha : Bs w a n c l) (hb : Bs w b n' c' l) : Calls Tryz.prog 13 #[.slice a n c, .slice b n' c'] w fun e w' => e = .returned (.bool true) ∧ Below w.heap.size w w' := by
  have := rSame w ha hb
  rw [decide_eq_true rfl] at this
  refine this.mono ?_
  rintro e w' ⟨rfl, k, rfl⟩
  exact ⟨rfl, below_drewN' w k⟩

end Go.Proofs.YtfknplcnfpincaaGreat

/-
  The contracts of layer 6's reference's Seal and Open. Conditions: the key's parts lie where its slices lead; rows of at most 900 bytes.
-/
namespace Go.Proofs.YtfknplcnfpincaaGreat
open Go.RowKit

theorem rSealNot (w : World) {v : Value} {a1 a2 a3 an ae at' : Option Addr} {c1 c2 c3 n cn ne ce nt ct : Nat} (hv : v = kv a1 a2 a3 c1 c2 c3) (hn : ¬ n = 12) :
    Calls Tryz.prog 43 #[v, .slice an n cn, .slice ae ne ce, .slice at' nt ct] w fun e w' => e = .returned (.tuple #[.slice none 0 0, .int .i64 17]) ∧ Below w.heap.size w w' := by
  have h1 : ((n : Int) != 12) = true := by simp; omega
  subst hv
  unfold kv
  go_enter Tryz.func43, Tryz.ntmps43
  go_wp2
  go_ret2
  exact ⟨rfl, below_alloc _ _⟩
/-- What Seal and Open leave: bytes in new memory. -/
def GivesC (w : World) (l : List UInt8) (e : Ending) (w' : World) : Prop := ∃ a m c, e = .returned (.tuple #[.slice a m c, .int .i64 0]) ∧ Own w' w.heap.size (.slice a m c) l ∧ Below w.heap.size w w'

set_option maxRecDepth 100000 in
set_option maxHeartbeats 2000000 in
theorem rSeal (w : World) {K nonce be t : List UInt8} {a1 a2 a3 an ae at' : Option Addr} {c1 c2 c3 cn ne ce nt ct : Nat} (hk : KeyR w K a1 a2 a3 c1 c2 c3) (hK : K.length = 240) (hn : Bs w an 12 cn nonce) (hE : Bs w ae ne ce be) (hT : Bs w at' nt ct t) (hze : ne ≤ 900) (hzt : nt ≤ 900) :
    Calls Tryz.prog 43 #[kv a1 a2 a3 c1 c2 c3, .slice an 12 cn, .slice ae ne ce, .slice at' nt ct] w (GivesC w (sealL K nonce be t)) := by
  have HNL : Hid (nonce.length = 12) := hn.len
  have HSL : Hid ((strL K nonce t).length = nt) := by show _ = _; rw [strL_length hK HNL.out, hT.len]
  have HTL : Hid ((tagL K nonce be (strL K nonce t)).length = 16) := tagL_length hK HNL.out _ _
  have HS : Hid (sealL K nonce be t = strL K nonce t ++ tagL K nonce be (strL K nonce t)) := rfl
  obtain ⟨Z, hZ⟩ : ∃ Z, Z = sealL K nonce be t := ⟨_, rfl⟩
  rw [← hZ] at HS ⊢
  clear hZ
  obtain ⟨W, hW⟩ : ∃ W, W = w.alloc (.cells (kc a1 a2 a3 c1 c2 c3).toArray 88) := ⟨_, rfl⟩
  have d0 : Blk W w.heap.size (kc a1 a2 a3 c1 c2 c3) 88 := by rw [hW]; exact Blk.new w _ _
  have q0 : Below w.heap.size w W := by rw [hW]; exact below_alloc w _
  have HW : Hid (W = w.alloc (.cells #[.slice a1 256 c1, .slice a2 60 c2, .slice a3 128 c3] 88)) := hW
  clear hW
  have kW := hk.below q0
  have nW := hn.below q0 (Nat.le_refl _)
  have eW := hE.below q0 (Nat.le_refl _)
  have tW := hT.below q0 (Nat.le_refl _)
  unfold kv
  go_enter Tryz.func43, Tryz.ntmps43
  go_wp2_with fail
  rw [← HW.out]
  refine (rStream W kW hK nW tW (by omega)).mono ?_
  rintro e u1 ⟨p1, m1, x1, rfl, ho1, hG1⟩
  have hB1 := ho1.toBs
  have hm1 : m1 = nt := by rw [← hB1.len]; exact HSL.out
  subst hm1
  generalize strL K nonce t = s at *
  have d1 := d0.grows hG1
  have e0 := d1.cell 0
  have e1 := d1.cell 1
  have e2 := d1.cell 2
  simp only [kc, List.getElem?_cons_zero, List.getElem?_cons_succ] at e0 e1 e2
  go_wp2_with fail
  refine (rTag u1 (kW.below hG1) hK (nW.grows hG1) (eW.grows hG1) hB1 hze hzt).mono ?_
  rintro e u2 ⟨p2, m2, x2, rfl, ho2, hG2⟩
  have hr : s.length + (tagL K nonce be s).length ≤ 1000000000 := by rw [HSL.out, HTL.out]; omega
  go_wp2_with (at_builtin; go_must (refine wpList_app u2 rfl (.tmp 18) (.tmp 23) rfl W.heap.size _ _ rfl (ho1.below hG2 (Nat.le_refl _)) p2 m2 x2 _ rfl ho2.toBs hr (Nat.le_trans (Below.size hG1) (Below.size hG2)) ?_); intro v3 u3 ho3 hb3)
  obtain ⟨p3, m3, x3, rfl, _⟩ := ho3.bs3
  rw [← HS.out] at ho3
  have g3 : Below W.heap.size W u3 := Below.trans (Grows.trans hG1 hG2) hb3
  go_ret2
  exact ⟨p3, m3, x3, rfl, ho3.mono q0.size, q0.trans (g3.mono q0.size)⟩

/-- 'b[:k]', 'b[k:]' in a region. -/
theorem ans_hi {ops : Array Oper} {S : World → Prop} {oi : Oper} {a : Act} (x y : Operand) (ho : oi.op = .slice 22 x none (some y) none) (hw : Region.wanted oi (yielded ops a.tmps) = true) (u v r : Value) (hx : a.eval x = u) (hy : a.eval y = v) (hr : ∀ w, Sem.run Tryz.prog (Instr.slice 22 u none (some v) none) w = .ok r w) : Ans Tryz.prog ops S oi r a := by
  refine ans_plain hw fun w _ => ?_
  unfold execOp
  simp only [ho, hx, hy, Option.map]
  go_simp
theorem ans_lo {ops : Array Oper} {S : World → Prop} {oi : Oper} {a : Act} (x y : Operand) (ho : oi.op = .slice 22 x (some y) none none) (hw : Region.wanted oi (yielded ops a.tmps) = true) (u v r : Value) (hx : a.eval x = u) (hy : a.eval y = v) (hr : ∀ w, Sem.run Tryz.prog (Instr.slice 22 u (some v) none none) w = .ok r w) : Ans Tryz.prog ops S oi r a := by
  refine ans_plain hw fun w _ => ?_
  unfold execOp
  simp only [ho, hx, hy, Option.map]
  go_simp

theorem rOpenNot (w : World) {v : Value} {a1 a2 a3 an ae as' : Option Addr} {c1 c2 c3 n cn ne ce ns cs' : Nat} (hv : v = kv a1 a2 a3 c1 c2 c3) (hn : ¬ n = 12) :
    Calls Tryz.prog 51 #[v, .slice an n cn, .slice ae ne ce, .slice as' ns cs'] w fun e w' => e = .returned (.tuple #[.slice none 0 0, .int .i64 17]) ∧ Below w.heap.size w w' := by
  have h1 : ((n : Int) != 12) = true := by simp; omega
  subst hv
  unfold kv
  go_enter Tryz.func51, Tryz.ntmps51
  go_wp2
  go_ret2
  exact ⟨rfl, below_alloc _ _⟩
theorem rOpenShort (w : World) {v : Value} {a1 a2 a3 an ae as' : Option Addr} {c1 c2 c3 cn ne ce ns cs' : Nat} (hv : v = kv a1 a2 a3 c1 c2 c3) (hs : ns < 16) :
    Calls Tryz.prog 51 #[v, .slice an 12 cn, .slice ae ne ce, .slice as' ns cs'] w fun e w' => e = .returned (.tuple #[.slice none 0 0, .int .i64 3]) ∧ Below w.heap.size w w' := by
  have h1 : (ns : Int) - 16 < 0 := by omega
  have h2 : IntKind.i64.wrap ((ns : Int) - 16) = (ns : Int) - 16 := by rw [IntKind.wrap_i64]; omega
  subst hv
  unfold kv
  go_enter Tryz.func51, Tryz.ntmps51
  go_wp2
  go_ret2
  exact ⟨rfl, below_alloc _ _⟩
/-- What Open leaves of a row that has a tag. -/
def OpensC (w : World) (ok : Bool) (l : List UInt8) (e : Ending) (w' : World) : Prop := if ok then GivesC w l e w' else e = .returned (.tuple #[.slice none 0 0, .int .i64 6]) ∧ Below w.heap.size w w'

set_option maxRecDepth 100000 in
set_option maxHeartbeats 2000000 in
theorem rOpen (w : World) {K nonce be s : List UInt8} {a1 a2 a3 an ae as' : Option Addr} {c1 c2 c3 cn ne ce ns cs' : Nat} (hk : KeyR w K a1 a2 a3 c1 c2 c3) (hK : K.length = 240) (hn : Bs w an 12 cn nonce) (hE : Bs w ae ne ce be) (hS : Bs w as' ns cs' s) (hze : ne ≤ 900) (hzs : ns ≤ 900) (h16 : 16 ≤ ns) :
    Calls Tryz.prog 51 #[kv a1 a2 a3 c1 c2 c3, .slice an 12 cn, .slice ae ne ce, .slice as' ns cs'] w (OpensC w (decide (tagL K nonce be (s.take (ns - 16)) = s.drop (ns - 16))) (strL K nonce (s.take (ns - 16)))) := by
  have HNL : Hid (nonce.length = 12) := hn.len
  have HSL : Hid (s.length = ns) := hS.len
  have h1 : ((12 : Int) != 12) = false := by decide
  obtain ⟨m, hm⟩ : ∃ m, m = ns - 16 := ⟨_, rfl⟩
  have i1 : (ns : Int) - 16 = (m : Int) := by omega
  have i2 : (0 : Int) ≤ (m : Int) := by omega
  have i3 : (m : Int) ≤ (ns : Int) := by omega
  rw [← hm]
  have HM : Hid (m = ns - 16) := hm
  clear hm
  have hmn : m ≤ ns := by have := HM.out; omega
  obtain ⟨hhi, hhB⟩ := hS.cutHigh m hmn
  obtain ⟨p', x', hlo, hlB, _⟩ := hS.cutLow m hmn
  obtain ⟨W, hW⟩ : ∃ W, W = w.alloc (.cells (kc a1 a2 a3 c1 c2 c3).toArray 88) := ⟨_, rfl⟩
  have d0 : Blk W w.heap.size (kc a1 a2 a3 c1 c2 c3) 88 := by rw [hW]; exact Blk.new w _ _
  have q0 : Below w.heap.size w W := by rw [hW]; exact below_alloc w _
  have HW : Hid (W = w.alloc (.cells #[.slice a1 256 c1, .slice a2 60 c2, .slice a3 128 c3] 88)) := hW
  clear hW
  have kW := hk.below q0
  have nW := hn.below q0 (Nat.le_refl _)
  have eW := hE.below q0 (Nat.le_refl _)
  have sW := hS.below q0 (Nat.le_refl _)
  have hsH := hhB W sW
  have hsL := hlB W sW
  obtain ⟨A, hA⟩ : ∃ A, A = s.take m := ⟨_, rfl⟩
  obtain ⟨C, hC⟩ : ∃ C, C = s.drop m := ⟨_, rfl⟩
  rw [← hA] at hsH ⊢
  rw [← hC] at hsL ⊢
  clear hA hC hhB hlB
  obtain ⟨b, hb⟩ : ∃ b, b = decide (tagL K nonce be A = C) := ⟨_, rfl⟩
  unfold kv
  go_enter Tryz.func51, Tryz.ntmps51
  go_upto_region 6 with fail
  rw [← HW.out]
  refine regionG (S := Grows W) (by kernel_rfl) (Below.refl _ W).drew ?_
  refine takeG 0 (some 19) (kv a1 a2 a3 c1 c2 c3) rfl rfl (by kernel_rfl) (by kernel_rfl) (by kernel_rfl) (fun _ _ _ h => h) (ans_key (.tmp 4) rfl (by rfl) w.heap.size rfl (fun w h => d0.grows h)) ?_
  simp only [Act.put, List.setIfInBounds_toArray, List.set_cons_zero, List.set_cons_succ]
  refine takeG 1 (some 20) (.slice an 12 cn) rfl rfl (by kernel_rfl) (by kernel_rfl) (by kernel_rfl) (fun _ _ _ h => h) (ans_plain (by rfl) (fun w _ => rfl)) ?_
  simp only [Act.put, List.setIfInBounds_toArray, List.set_cons_zero, List.set_cons_succ]
  refine takeG 2 (some 21) (.slice ae ne ce) rfl rfl (by kernel_rfl) (by kernel_rfl) (by kernel_rfl) (fun _ _ _ h => h) (ans_plain (by rfl) (fun w _ => rfl)) ?_
  simp only [Act.put, List.setIfInBounds_toArray, List.set_cons_zero, List.set_cons_succ]
  refine takeG 3 (some 22) (.slice as' ns cs') rfl rfl (by kernel_rfl) (by kernel_rfl) (by kernel_rfl) (fun _ _ _ h => h) (ans_plain (by rfl) (fun w _ => rfl)) ?_
  simp only [Act.put, List.setIfInBounds_toArray, List.set_cons_zero, List.set_cons_succ]
  refine takeG 4 (some 23) (.int .i64 (m : Int)) rfl rfl (by kernel_rfl) (by kernel_rfl) (by kernel_rfl) (fun _ _ _ h => h) (ans_plain (by rfl) (fun w _ => rfl)) ?_
  simp only [Act.put, List.setIfInBounds_toArray, List.set_cons_zero, List.set_cons_succ]
  refine takeG 5 (some 24) (.slice as' m cs') rfl rfl (by kernel_rfl) (by kernel_rfl) (by kernel_rfl) (fun _ _ _ h => h) (ans_hi (.tmp 22) (.tmp 23) rfl (by rfl) _ _ _ rfl rfl hhi) ?_
  simp only [Act.put, List.setIfInBounds_toArray, List.set_cons_zero, List.set_cons_succ]
  refine takeG 7 (some 26) (.slice as' ns cs') rfl rfl (by kernel_rfl) (by kernel_rfl) (by kernel_rfl) (fun _ _ _ h => h) (ans_plain (by rfl) (fun w _ => rfl)) ?_
  simp only [Act.put, List.setIfInBounds_toArray, List.set_cons_zero, List.set_cons_succ]
  refine takeG 8 (some 27) (.int .i64 (m : Int)) rfl rfl (by kernel_rfl) (by kernel_rfl) (by kernel_rfl) (fun _ _ _ h => h) (ans_plain (by rfl) (fun w _ => rfl)) ?_
  simp only [Act.put, List.setIfInBounds_toArray, List.set_cons_zero, List.set_cons_succ]
  refine takeG 9 (some 28) (.slice p' (ns - m) x') rfl rfl (by kernel_rfl) (by kernel_rfl) (by kernel_rfl) (fun _ _ _ h => h) (ans_lo (.tmp 26) (.tmp 27) rfl (by rfl) _ _ _ rfl rfl hlo) ?_
  simp only [Act.put, List.setIfInBounds_toArray, List.set_cons_zero, List.set_cons_succ]
  refine callG 6 (some 25) 61 #[.tmp 19, .tmp 20, .tmp 21, .tmp 24] #[88, 22, 22, 22] #[kv a1 a2 a3 c1 c2 c3, .slice an 12 cn, .slice ae ne ce, .slice as' m cs'] rfl rfl rfl (by rfl) (by rfl) (by kernel_rfl) Tryz.call61 fun u1 hg1 hs1 => ?_
  refine (rTag u1 (kW.below hs1) hK (nW.grows hs1) (eW.grows hs1) (hsH.grows hs1) hze (by omega)).mono ?_
  rintro e u2 ⟨p2, m2, x2, rfl, ho2, hG2⟩
  refine ⟨_, rfl, Grows.trans hs1 hG2, ?_⟩
  simp only [Act.put, List.setIfInBounds_toArray, List.set_cons_zero, List.set_cons_succ]
  refine callG 10 (some 29) 13 #[.tmp 25, .tmp 28] #[22, 22] #[.slice p2 m2 x2, .slice p' (ns - m) x'] rfl rfl rfl (by rfl) (by rfl) (by kernel_rfl) Tryz.call13 fun u3 hg3 hs3 => ?_
  refine (rSame u3 (ho2.toBs.grows hg3) (hsL.grows hs3)).mono ?_
  rintro e u4 ⟨rfl, kk, rfl⟩
  rw [← hb]
  refine ⟨_, rfl, Grows.trans hs3 (below_drewN' u3 kk), ?_⟩
  simp only [Act.put, List.setIfInBounds_toArray, List.set_cons_zero, List.set_cons_succ]
  refine takeG 11 (some 30) (.bool (!b)) rfl rfl (by kernel_rfl) (by kernel_rfl) (by kernel_rfl) (fun _ _ _ h => h) (ans_plain (by rfl) (fun w _ => by unfold execOp; go_simp)) ?_
  simp only [Act.put, List.setIfInBounds_toArray, List.set_cons_zero, List.set_cons_succ]
  refine doneG (by kernel_rfl) fun u5 hg5 hs5 => ?_
  have d5 := d0.grows hs5
  cases b with
  | false =>
    go_wp2_with fail
    go_ret2
    unfold OpensC
    rw [← hb, if_neg (by decide)]
    exact ⟨rfl, q0.trans (Below.mono hs5 q0.size)⟩
  | true =>
    go_wp2_with fail
    refine regionG (S := Grows u5) (by kernel_rfl) (Below.refl _ u5).drew ?_
    refine takeG 0 (some 31) (kv a1 a2 a3 c1 c2 c3) rfl rfl (by kernel_rfl) (by kernel_rfl) (by kernel_rfl) (fun _ _ _ h => h) (ans_key (.tmp 4) rfl (by rfl) w.heap.size rfl (fun w h => d5.grows h)) ?_
    simp only [Act.put, List.setIfInBounds_toArray, List.set_cons_zero, List.set_cons_succ]
    refine takeG 1 (some 32) (.slice an 12 cn) rfl rfl (by kernel_rfl) (by kernel_rfl) (by kernel_rfl) (fun _ _ _ h => h) (ans_plain (by rfl) (fun w _ => rfl)) ?_
    simp only [Act.put, List.setIfInBounds_toArray, List.set_cons_zero, List.set_cons_succ]
    refine takeG 2 (some 33) (.slice as' ns cs') rfl rfl (by kernel_rfl) (by kernel_rfl) (by kernel_rfl) (fun _ _ _ h => h) (ans_plain (by rfl) (fun w _ => rfl)) ?_
    simp only [Act.put, List.setIfInBounds_toArray, List.set_cons_zero, List.set_cons_succ]
    refine takeG 3 (some 34) (.int .i64 (m : Int)) rfl rfl (by kernel_rfl) (by kernel_rfl) (by kernel_rfl) (fun _ _ _ h => h) (ans_plain (by rfl) (fun w _ => rfl)) ?_
    simp only [Act.put, List.setIfInBounds_toArray, List.set_cons_zero, List.set_cons_succ]
    refine takeG 4 (some 35) (.slice as' m cs') rfl rfl (by kernel_rfl) (by kernel_rfl) (by kernel_rfl) (fun _ _ _ h => h) (ans_hi (.tmp 33) (.tmp 34) rfl (by rfl) _ _ _ rfl rfl hhi) ?_
    simp only [Act.put, List.setIfInBounds_toArray, List.set_cons_zero, List.set_cons_succ]
    refine callG 5 (some 36) 60 #[.tmp 31, .tmp 32, .tmp 35] #[88, 22, 22] #[kv a1 a2 a3 c1 c2 c3, .slice an 12 cn, .slice as' m cs'] rfl rfl rfl (by rfl) (by rfl) (by kernel_rfl) Tryz.call60 fun u6 hg6 hs6 => ?_
    have g6 : Grows W u6 := Grows.trans hs5 hs6
    refine (rStream u6 (kW.below g6) hK (nW.grows g6) (hsH.grows g6) (by omega)).mono ?_
    rintro e u7 ⟨p7, m7, x7, rfl, ho7, hG7⟩
    refine ⟨_, rfl, Grows.trans hs6 hG7, ?_⟩
    simp only [Act.put, List.setIfInBounds_toArray, List.set_cons_zero, List.set_cons_succ]
    refine takeG 6 (some 8) (.slice p7 m7 x7) rfl rfl (by kernel_rfl) (by kernel_rfl) (by kernel_rfl) (fun _ _ _ h => h) (ans_plain (by rfl) (fun w _ => rfl)) ?_
    simp only [Act.put, List.setIfInBounds_toArray, List.set_cons_zero, List.set_cons_succ]
    refine takeG 7 (some 9) (.int .i64 0) rfl rfl (by kernel_rfl) (by kernel_rfl) (by kernel_rfl) (fun _ _ _ h => h) (ans_plain (by rfl) (fun w _ => rfl)) ?_
    simp only [Act.put, List.setIfInBounds_toArray, List.set_cons_zero, List.set_cons_succ]
    refine doneG (by kernel_rfl) fun u8 hg8 hs8 => ?_
    have g8 : Grows W u8 := Grows.trans hs5 hs8
    have hl8 : w.heap.size ≤ u6.heap.size := Nat.le_trans q0.size (Below.size g6)
    go_wp2_with fail
    go_ret2
    unfold OpensC
    rw [← hb, if_pos rfl]
    exact ⟨p7, m7, x7, rfl, (ho7.below hg8 (Nat.le_refl _)).mono hl8, q0.trans (Below.mono g8 q0.size)⟩

end Go.Proofs.YtfknplcnfpincaaGreat

/-
  The contract of layer 6's reference's New: a key's box, words and element. Condition: a key of 32 bytes.
-/
namespace Go.Proofs.YtfknplcnfpincaaGreat
open Go.RowKit

/-- A store of one cell, the one that may come up. -/
theorem opStB {ops : Array Oper} {Q : Exit → Act → World → Prop} {i : Nat} {oi : Oper} (hi : ops[i]? = some oi) (hd : oi.dst = none) (hg : oi.guard = none) (x y : Operand) (ho : oi.op = .store 86 x y) {K : Act → World → Prop} {a : Act} {w : World} (g o : Nat) (v u : Value) (hx : a.eval x = .pointer (some ⟨g, o, none⟩)) (hy : a.eval y = v) (p : Option Addr) (n c : Nat) (hv : v = .slice p n c) (hc : w.cell? ⟨g, o, none⟩ = some u) (hf : w.frozen? ⟨g, o, none⟩ = false) (k : K a (w.setCell ⟨g, o, none⟩ v)) : wpOp Tryz.prog ops Q i K a w := by
  have hk : Hid _ := k
  subst hv
  clear k
  unfold wpOp
  simp only [hi]
  rw [if_pos (by simp [Region.wanted, hg])]
  left
  unfold Oper.wp execOp
  simp only [ho, hx, hy]
  go_simp
  exact hk.out
/-- Bytes, words and bools outlast a store into a variable that holds three slices. -/
theorem notK {w : World} {g : Nat} {s1 s2 s3 : Value} {t : TypeId} (hb : Blk w g [s1, s2, s3] t) (h1 : ∃ p n c, s1 = .slice p n c) (h2 : ∃ p n c, s2 = .slice p n c) (h3 : ∃ p n c, s3 = .slice p n c) {o : Nat} {v : Value} (hc : w.cell? ⟨g, o, none⟩ = some v) : ∃ p n c, v = .slice p n c := by
  rw [hb.cell] at hc
  match o, hc with
  | 0, hc => simp at hc; rw [← hc]; exact h1
  | 1, hc => simp at hc; rw [← hc]; exact h2
  | 2, hc => simp at hc; rw [← hc]; exact h3
theorem Bs.setK {w : World} {g : Nat} {s1 s2 s3 : Value} {t : TypeId} (hb : Blk w g [s1, s2, s3] t) (h1 : ∃ p n c, s1 = .slice p n c) (h2 : ∃ p n c, s2 = .slice p n c) (h3 : ∃ p n c, s3 = .slice p n c) (o : Nat) (u : Value) {a : Option Addr} {n c : Nat} {l : List UInt8} (h : Bs w a n c l) : Bs (w.setCell ⟨g, o, none⟩ u) a n c l := by
  refine ⟨h.1, h.2.1, h.2.2.1, h.2.2.2.1, fun i hi => ?_⟩
  obtain ⟨b, o', ha, hc⟩ := h.2.2.2.2 i hi
  have hne : b ≠ g := fun e => by
    subst e
    obtain ⟨p, n, c, e⟩ := notK hb h1 h2 h3 hc
    simp at e
  refine ⟨b, o', ha, ?_⟩
  rw [World.cell?_of_block (w := w) (a := ⟨b, o' + i, none⟩) (Below.heap_setCell _ _ _ _ hne)]
  exact hc
theorem Bo.setK {w : World} {g : Nat} {s1 s2 s3 : Value} {t : TypeId} (hb : Blk w g [s1, s2, s3] t) (h1 : ∃ p n c, s1 = .slice p n c) (h2 : ∃ p n c, s2 = .slice p n c) (h3 : ∃ p n c, s3 = .slice p n c) (o : Nat) (u : Value) {a : Option Addr} {n c : Nat} {l : List Bool} (h : Bo w a n c l) : Bo (w.setCell ⟨g, o, none⟩ u) a n c l := by
  refine ⟨h.1, h.2.1, h.2.2.1, h.2.2.2.1, fun i hi => ?_⟩
  obtain ⟨b, o', ha, hc⟩ := h.2.2.2.2 i hi
  have hne : b ≠ g := fun e => by
    subst e
    obtain ⟨p, n, c, e⟩ := notK hb h1 h2 h3 hc
    simp at e
  refine ⟨b, o', ha, ?_⟩
  rw [World.cell?_of_block (w := w) (a := ⟨b, o' + i, none⟩) (Below.heap_setCell _ _ _ _ hne)]
  exact hc
theorem Bss.setK {w : World} {g : Nat} {s1 s2 s3 : Value} {t : TypeId} (hb : Blk w g [s1, s2, s3] t) (h1 : ∃ p n c, s1 = .slice p n c) (h2 : ∃ p n c, s2 = .slice p n c) (h3 : ∃ p n c, s3 = .slice p n c) (o : Nat) (u : Value) {a : Option Addr} {n c : Nat} {ls : List (List UInt8)} (hn : 3 < n) (h : Bss w a n c ls) : Bss (w.setCell ⟨g, o, none⟩ u) a n c ls := by
  obtain ⟨b0, o0, hab, _, hcs⟩ := h.at (by omega)
  have hne : b0 ≠ g := fun e => by
    subst e
    obtain ⟨p, m, q, hc, _⟩ := hcs (n - 1) (by omega)
    rw [hb.cell, List.getElem?_eq_none (by simp; omega)] at hc
    simp at hc
  refine ⟨h.1, h.2.1, h.2.2.1, fun i hi => ?_⟩
  obtain ⟨p, m, q, hc, hB⟩ := hcs i hi
  refine ⟨b0, o0, p, m, q, hab, ?_, Bs.setK hb h1 h2 h3 o u hB⟩
  rw [World.cell?_of_block (w := w) (a := ⟨b0, o0 + i, none⟩) (Below.heap_setCell _ _ _ _ hne)]
  exact hc
/-- What New leaves. -/
def HasK (w : World) (K : List UInt8) (e : Ending) (w' : World) : Prop := ∃ a1 a2 a3 c1 c2 c3, e = .returned (kv a1 a2 a3 c1 c2 c3) ∧ KeyR w' K a1 a2 a3 c1 c2 c3 ∧ Below w.heap.size w w'

set_option maxRecDepth 100000 in
set_option maxHeartbeats 4000000 in
theorem rNewK (w : World) {a : Option Addr} {c : Nat} {key : List UInt8} (ha : Bs w a 32 c key) : Calls Tryz.prog 44 #[.slice a 32 c] w (HasK w (keyF key)) := by
  have HKL : Hid ((keyF key).length = 240) := keyF_length ha.len
  have CW : Hid (∀ w p q x y, Bs w p 256 q boxT → Bs w x 32 y key → Calls Tryz.prog 63 #[.slice p 256 q, .slice x 32 y] w fun e w' => ∃ p q, e = .returned (.slice p 60 q) ∧ Bss w' p 60 q (wdsL (keyF key)) ∧ Below w.heap.size w w') := fun w p q x y h h' => rWordsA w h h'
  have HH : Hid (hKey (keyF key) = feB (aesL (keyF key) (List.replicate 16 0))) := rfl
  have HAL : Hid ((aesL (keyF key) (List.replicate 16 0)).length = 16) := blkS_length HKL.out (by simp) (Nat.le_refl _)
  have CB : Hid (∀ w p q x y z t, Bs w p 256 q boxT → Bss w x 60 y (wdsL (keyF key)) → Bs w z 16 t (List.replicate 16 0) → Calls Tryz.prog 65 #[.slice p 256 q, .slice x 60 y, .slice z 16 t] w (Gives w (aesL (keyF key) (List.replicate 16 0)))) := fun w p q x y z t h h' h2 => rBlock w h HKL.out h' h2
  generalize aesL (keyF key) (List.replicate 16 0) = Z at *
  obtain ⟨K, hK⟩ : ∃ K, K = keyF key := ⟨_, rfl⟩
  rw [← hK] at CW HH CB ⊢
  clear hK HKL
  go_enter Tryz.func44, Tryz.ntmps44
  go_wp2_with fail
  refine (rBoxes _).mono ?_
  rintro e u1 ⟨p1, m1, x1, rfl, ho1, hb1⟩
  have hB1 := ho1.toBs
  have hm1 : m1 = 256 := by rw [← hB1.len]; exact boxT_length
  subst hm1
  have q1 := (below_alloc w (.cells #[.slice none 0 0, .slice none 0 0, .slice none 0 0] 88)).trans (hb1.mono (by simp))
  have r1 : Blk u1 w.heap.size [.slice none 0 0, .slice none 0 0, .slice none 0 0] 88 := (Blk.new w _ _).below hb1 (by simp)
  clear hb1 ho1
  go_upto_region 2 with fail
  obtain ⟨U, hU⟩ : ∃ U, U = u1.alloc (.cells #[.slice p1 256 x1, .slice none 0 0, .slice none 0 0] 88) := ⟨_, rfl⟩
  rw [← hU]
  have dU : Blk U u1.heap.size [.slice p1 256 x1, .slice none 0 0, .slice none 0 0] 88 := by rw [hU]; exact Blk.new u1 _ _
  have gU : Grows u1 U := by rw [hU]; exact Grows.alloc _ _
  clear hU
  have e0 := dU.cell 0
  simp only [List.getElem?_cons_zero] at e0
  go_wp2_with (go_at_call 63; go_must (refine (CW.out U _ _ _ _ (hB1.grows gU) (ha.below (q1.trans (Below.mono gU q1.size)) (Nat.le_refl _))).mono ?_); rintro e u2 ⟨p2, x2, rfl, hW2, hb2⟩; have d2 := dU.below hb2 dU.lt; have e1 := d2.cell 1; have f1 := d2.free 1; simp only [List.getElem?_cons_zero, List.getElem?_cons_succ] at e1)
  obtain ⟨V, hV⟩ : ∃ V, V = u2.setCell ⟨u1.heap.size, 1, none⟩ (.slice p2 60 x2) := ⟨_, rfl⟩
  rw [← hV]
  have hg3 : w.heap.size ≤ u1.heap.size := q1.size
  have hG2 : Below u1.heap.size u1 u2 := Below.trans gU (Below.mono hb2 (Below.size gU))
  have dV : Blk V u1.heap.size [.slice p1 256 x1, .slice p2 60 x2, .slice none 0 0] 88 := by rw [hV]; exact d2.setC 1 _
  have bV : Bs V p1 256 x1 boxT := by rw [hV]; exact Bs.setK d2 ⟨_, _, _, rfl⟩ ⟨_, _, _, rfl⟩ ⟨_, _, _, rfl⟩ 1 _ ((hB1.grows gU).below hb2 (Nat.le_refl _))
  have wV : Bss V p2 60 x2 (wdsL K) := by rw [hV]; exact Bss.setK d2 ⟨_, _, _, rfl⟩ ⟨_, _, _, rfl⟩ ⟨_, _, _, rfl⟩ 1 _ (by omega) hW2
  have gV : Below u1.heap.size u1 V := by rw [hV]; exact hG2.setCell (Nat.le_refl _) _
  have rV : Blk V w.heap.size [.slice none 0 0, .slice none 0 0, .slice none 0 0] 88 := by rw [hV]; exact (r1.below hG2 r1.lt).setO (Nat.ne_of_lt r1.lt) _
  clear hV d2 dU hW2 hb2 hG2 e0 e1 f1 gU r1 CW
  refine regionG (S := fun w' => w'.cell? ⟨u1.heap.size, 0, none⟩ = some (.slice p1 256 x1) ∧ w'.cell? ⟨u1.heap.size, 1, none⟩ = some (.slice p2 60 x2)) (by kernel_rfl) ⟨dV.cell 0, dV.cell 1⟩ ?_
  refine takeG 0 (some 11) (.pointer (some ⟨u1.heap.size, 0, none⟩)) rfl rfl (by kernel_rfl) (by kernel_rfl) (by kernel_rfl) (fun _ _ _ h => h) (ans_at (.tmp 3) 0 (by decide) rfl (by rfl) u1.heap.size rfl) ?_
  simp only [Act.put, List.setIfInBounds_toArray, List.set_cons_zero, List.set_cons_succ]
  refine takeG 1 (some 12) (.slice p1 256 x1) rfl rfl (by kernel_rfl) (by kernel_rfl) (by kernel_rfl) (fun _ _ _ h => h) (ans_c8 (.tmp 11) rfl (by rfl) u1.heap.size 0 _ rfl (fun w h => h.1)) ?_
  simp only [Act.put, List.setIfInBounds_toArray, List.set_cons_zero, List.set_cons_succ]
  refine takeG 2 (some 13) (.pointer (some ⟨u1.heap.size, 1, none⟩)) rfl rfl (by kernel_rfl) (by kernel_rfl) (by kernel_rfl) (fun _ _ _ h => h) (ans_at (.tmp 3) 1 (by decide) rfl (by rfl) u1.heap.size rfl) ?_
  simp only [Act.put, List.setIfInBounds_toArray, List.set_cons_zero, List.set_cons_succ]
  refine takeG 3 (some 14) (.slice p2 60 x2) rfl rfl (by kernel_rfl) (by kernel_rfl) (by kernel_rfl) (fun _ _ _ h => h) (ans_cS (.tmp 13) rfl (by rfl) u1.heap.size 1 _ rfl (fun w h => h.2)) ?_
  simp only [Act.put, List.setIfInBounds_toArray, List.set_cons_zero, List.set_cons_succ]
  have hVl := dV.lt
  have keep : ∀ u, Grows V u → u.cell? ⟨u1.heap.size, 0, none⟩ = some (.slice p1 256 x1) ∧ u.cell? ⟨u1.heap.size, 1, none⟩ = some (.slice p2 60 x2) := fun u h => ⟨(dV.grows h).cell 0, (dV.grows h).cell 1⟩
  refine oneG 4 (by kernel_rfl) fun u3 hg3' hs3 => ?_
  have g3 : Grows V u3 := Grows.trans (Below.refl _ V).drew hg3'
  refine opMk8 (some 15) rfl rfl rfl (.const (.int .i64 16)) (.const (.int .i64 16)) rfl 16 rfl rfl (by decide) fun u4 hZ hG4 => ⟨keep _ (Grows.trans g3 hG4), ?_⟩
  have g4 : Grows V u4 := Grows.trans g3 hG4
  simp only [Act.put, List.setIfInBounds_toArray, List.set_cons_zero, List.set_cons_succ]
  refine callG 5 (some 16) 65 #[.tmp 12, .tmp 14, .tmp 15] #[22, 28, 22] #[.slice p1 256 x1, .slice p2 60 x2, .slice (some ⟨u3.heap.size, 0, none⟩) 16 16] rfl rfl rfl (by rfl) (by rfl) (by kernel_rfl) Tryz.call65 fun u5 hg5 hs5 => ?_
  have g5 : Grows V u5 := Grows.trans g4 hg5
  refine (CB.out u5 _ _ _ _ _ _ (bV.grows g5) (wV.below g5 (Nat.le_refl _)) (hZ.toBs.grows hg5)).mono ?_
  rintro e u6 ⟨p6, m6, x6, rfl, ho6, hG6⟩
  have g6 : Grows V u6 := Grows.trans g5 hG6
  have hB6 := ho6.toBs
  have hm6 : m6 = 16 := by rw [← hB6.len]; exact HAL.out
  subst hm6
  refine ⟨_, rfl, keep _ g6, ?_⟩
  simp only [Act.put, List.setIfInBounds_toArray, List.set_cons_zero, List.set_cons_succ]
  refine callG 6 (some 17) 64 #[.tmp 16] #[22] #[.slice p6 16 x6] rfl rfl rfl (by rfl) (by rfl) (by kernel_rfl) Tryz.call64 fun u7 hg7 hs7 => ?_
  refine (rBits u7 (hB6.grows hg7) (by omega)).mono ?_
  rintro e u8 ⟨p8, x8, rfl, hB8, _, hG8⟩
  rw [fb_length, ← HH.out] at hB8
  rw [fb_length]
  have g8 : Grows V u8 := Grows.trans (Grows.trans g6 hg7) hG8
  refine ⟨_, rfl, keep _ g8, ?_⟩
  simp only [Act.put, List.setIfInBounds_toArray, List.set_cons_zero, List.set_cons_succ]
  refine takeG 7 (some 18) (.pointer (some ⟨u1.heap.size, 2, none⟩)) rfl rfl (by kernel_rfl) (by kernel_rfl) (by kernel_rfl) (fun _ _ _ h => h) (ans_at (.tmp 3) 2 (by decide) rfl (by rfl) u1.heap.size rfl) ?_
  simp only [Act.put, List.setIfInBounds_toArray, List.set_cons_zero, List.set_cons_succ]
  refine oneG 8 (by kernel_rfl) fun u9 hg9 hs9 => ?_
  have g9 : Grows V u9 := Grows.trans g8 hg9
  have d9 := dV.grows g9
  refine opStB rfl rfl rfl (.tmp 18) (.tmp 17) rfl u1.heap.size 2 (.slice p8 128 x8) _ rfl rfl p8 128 x8 rfl (d9.cell 2) (d9.free 2) ?_
  obtain ⟨ua, hua⟩ : ∃ ua, ua = u9.setCell ⟨u1.heap.size, 2, none⟩ (.slice p8 128 x8) := ⟨_, rfl⟩
  rw [← hua]
  have da : Blk ua u1.heap.size [.slice p1 256 x1, .slice p2 60 x2, .slice p8 128 x8] 88 := by rw [hua]; exact d9.setC 2 _
  have ba : Bs ua p1 256 x1 boxT := by rw [hua]; exact Bs.setK d9 ⟨_, _, _, rfl⟩ ⟨_, _, _, rfl⟩ ⟨_, _, _, rfl⟩ 2 _ (bV.grows g9)
  have wa : Bss ua p2 60 x2 (wdsL K) := by rw [hua]; exact Bss.setK d9 ⟨_, _, _, rfl⟩ ⟨_, _, _, rfl⟩ ⟨_, _, _, rfl⟩ 2 _ (by omega) (wV.below g9 (Nat.le_refl _))
  have la : Bo ua p8 128 x8 (fb (hKey K)) := by rw [hua]; exact Bo.setK d9 ⟨_, _, _, rfl⟩ ⟨_, _, _, rfl⟩ ⟨_, _, _, rfl⟩ 2 _ (hB8.below hg9 (Nat.le_refl _))
  have ra : Blk ua w.heap.size [.slice none 0 0, .slice none 0 0, .slice none 0 0] 88 := by rw [hua]; exact (rV.grows g9).setO (by have := q1.size; have := rV.lt; intro e; have h1 := (rV.grows g9).cell 0; rw [e, d9.cell 0] at h1; simp at h1) _
  have ga : Below u1.heap.size u1 ua := by rw [hua]; exact (gV.trans (Below.mono g9 (Nat.le_of_lt hVl))).setCell (Nat.le_refl _) _
  clear hua
  refine ⟨⟨da.cell 0, da.cell 1⟩, ?_⟩
  refine doneG (by kernel_rfl) fun ub hgb hsb => ?_
  have db := da.grows hgb
  have rb := ra.grows hgb
  have c0 := db.cell 0
  have c1 := db.cell 1
  have c2 := db.cell 2
  have k0 := rb.cell 0
  have k1 := rb.cell 1
  have k2 := rb.cell 2
  have f0 := rb.free 0
  have f1 := rb.free 1
  have f2 := rb.free 2
  simp only [List.getElem?_cons_zero, List.getElem?_cons_succ] at c0 c1 c2 k0 k1 k2
  have B : Hid (Blk (((ub.setCell ⟨w.heap.size, 0, none⟩ (.slice p1 256 x1)).setCell ⟨w.heap.size, 1, none⟩ (.slice p2 60 x2)).setCell ⟨w.heap.size, 2, none⟩ (.slice p8 128 x8)) w.heap.size (kc p1 p2 p8 x1 x2 x8) 88) := ((rb.setC 0 _).setC 1 _).setC 2 _
  have hS : ∀ {p n c}, ∃ q m d, Value.slice p n c = .slice q m d := ⟨_, _, _, rfl⟩
  have X : Hid (KeyR (((ub.setCell ⟨w.heap.size, 0, none⟩ (.slice p1 256 x1)).setCell ⟨w.heap.size, 1, none⟩ (.slice p2 60 x2)).setCell ⟨w.heap.size, 2, none⟩ (.slice p8 128 x8)) K p1 p2 p8 x1 x2 x8) :=
    ⟨Bs.setK ((rb.setC 0 _).setC 1 _) hS hS hS 2 _ (Bs.setK (rb.setC 0 _) hS hS hS 1 _ (Bs.setK rb hS hS hS 0 _ (ba.grows hgb))), Bss.setK ((rb.setC 0 _).setC 1 _) hS hS hS 2 _ (by omega) (Bss.setK (rb.setC 0 _) hS hS hS 1 _ (by omega) (Bss.setK rb hS hS hS 0 _ (by omega) (wa.below hgb (Nat.le_refl _)))), Bo.setK ((rb.setC 0 _).setC 1 _) hS hS hS 2 _ (Bo.setK (rb.setC 0 _) hS hS hS 1 _ (Bo.setK rb hS hS hS 0 _ (la.below hgb (Nat.le_refl _))))⟩
  have qb : Below w.heap.size w ub := (q1.trans (Below.mono ga q1.size)).trans (Below.mono hgb (Nat.le_trans q1.size (Below.size ga)))
  go_wp2_with fail
  exact bodyPost_ret (v := kv p1 p2 p8 x1 x2 x8) (results_cell_row Tryz.results44 _ _ w.heap.size 88 (kc p1 p2 p8 x1 x2 x8).toArray (0, 0) _ rfl B.out Tryz.underlying88 rfl (by kernel_rfl)) rfl ⟨p1, p2, p8, x1, x2, x8, rfl, X.out, ((qb.setCell (Nat.le_refl _) _).setCell (Nat.le_refl _) _).setCell (Nat.le_refl _) _⟩

end Go.Proofs.YtfknplcnfpincaaGreat

/-
  The contract of the program's Same. No condition.
-/
namespace Go.Proofs.YtfknplcnfpincaaGreat
open Go.RowKit

theorem orx {t a b : Int} (h0 : 0 ≤ t) (h1 : t ≤ 255) (a0 : 0 ≤ a) (a1 : a ≤ 255) (b0 : 0 ≤ b) (b1 : b ≤ 255) :
    0 ≤ bits .or .u8 t (bits .xor .u8 a b) ∧ bits .or .u8 t (bits .xor .u8 a b) ≤ 255 ∧ (bits .or .u8 t (bits .xor .u8 a b) = 0 ↔ t = 0 ∧ a = b) := by
  have hx := u8_xor a b a0 (by omega) b0 (by omega)
  have hlt : a.toNat ^^^ b.toNat < 2 ^ 8 := Nat.xor_lt_two_pow (by omega) (by omega)
  rw [hx, u8_or t _ h0 (by omega) (by omega) (by omega), Int.toNat_natCast]
  have hlt2 : t.toNat ||| (a.toNat ^^^ b.toNat) < 2 ^ 8 := Nat.or_lt_two_pow (by omega) hlt
  refine ⟨by omega, by omega, ?_⟩
  constructor
  · intro h
    have h : t.toNat ||| (a.toNat ^^^ b.toNat) = 0 := by omega
    rw [Nat.or_eq_zero_iff] at h
    have e := congrArg (· ^^^ b.toNat) h.2
    simp only [Nat.xor_assoc, Nat.xor_self, Nat.xor_zero, Nat.zero_xor] at e
    omega
  · rintro ⟨rfl, rfl⟩
    simp

theorem osame_step {l m : List UInt8} {k : Nat} {t : Int} (h : Hid (t = 0 ↔ ∀ j, j < k → bt l j = bt m j))
    (O : Hid (0 ≤ bits .or .u8 t (bits .xor .u8 (bt l k) (bt m k)) ∧ bits .or .u8 t (bits .xor .u8 (bt l k) (bt m k)) ≤ 255 ∧ (bits .or .u8 t (bits .xor .u8 (bt l k) (bt m k)) = 0 ↔ t = 0 ∧ bt l k = bt m k))) :
    Hid (bits .or .u8 t (bits .xor .u8 (bt l k) (bt m k)) = 0 ↔ ∀ j, j < k + 1 → bt l j = bt m j) := by
  show _ ↔ _
  rw [O.out.2.2, h.out]
  constructor
  · rintro ⟨h1, h2⟩ j hj
    by_cases e : j = k
    · subst e; exact h2
    · exact h1 j (by omega)
  · intro h1
    exact ⟨fun j hj => h1 j (by omega), h1 k (by omega)⟩
theorem osame_end {l m : List UInt8} {n k : Nat} {t : Int} (H : Hid (l.length = n ∧ m.length = n)) (h : ¬ k < n) (hj : Hid (t = 0 ↔ ∀ j, j < k → bt l j = bt m j)) : (t == 0) = decide (l = m) := by
  obtain ⟨h1, h2⟩ := H.out
  rw [Bool.eq_iff_iff, beq_iff_eq, decide_eq_true_iff, hj.out]
  constructor
  · intro h3
    exact bt_inj (by omega) fun i hi => h3 i (by omega)
  · rintro rfl j _
    rfl

set_option maxHeartbeats 400000 in
theorem oSame (w : World) {a b : Option Addr} {n c n' c' : Nat} {l m : List UInt8} (ha : Bs w a n c l) (hb : Bs w b n' c' m) :
    Calls Tryz.prog 83 #[.slice a n c, .slice b n' c'] w fun e w' => e = .returned (.bool (decide (l = m))) ∧ w = w' := by
  have h1 := ha.max
  have h2 := hb.max
  by_cases hn : n = n'
  · subst hn
    by_cases h0 : n = 0
    · subst h0
      have e : decide (l = m) = true := by
        have e1 := ha.len
        have e2 := hb.len
        simp at e1 e2
        simp [e1, e2]
      rw [e]
      clear e ha hb
      go_enter Tryz.func83, Tryz.ntmps83
      go_wp2
      refine wp_loop_rounds 1 ?_; rw [rounds_succ]; go_wp2
      go_ret
      exact ⟨rfl, rfl⟩
    · obtain ⟨x, o, rfl, hx, hc⟩ := ha.at (by omega)
      obtain ⟨y, q, rfl, hy, hd⟩ := hb.at (by omega)
      have e1 := ha.len
      have e2 := hb.len
      have H : Hid (l.length = n ∧ m.length = n) := ⟨e1, e2⟩
      clear e1 e2 ha hb
      go_enter Tryz.func83, Tryz.ntmps83
      go_wp2
      go_loop [5, 15] (fun u i => ∃ (k : Nat) (t : Int), k ≤ n ∧ i = .int .i64 k ∧ u = .int .u8 t ∧ 0 ≤ t ∧ t ≤ 255 ∧ Hid (t = 0 ↔ ∀ j, j < k → bt l j = bt m j)) (fun _ i => n - (intOf i).toNat)
      case atStart => exact ⟨0, 0, Nat.zero_le _, rfl, rfl, by omega, by omega, ⟨fun _ j hj => by omega, fun _ => rfl⟩⟩
      case round =>
        obtain ⟨k, t, hk, rfl, rfl, t0, t1, hj⟩ := hrel
        by_cases hlt : k < n
        · have c1 := hc k hlt
          have c2 := hd k hlt
          have O : Hid (_ ∧ _ ∧ _) := orx t0 t1 (bt_lo l k) (bt_hi l k) (bt_lo m k) (bt_hi m k)
          clear hc hd
          go_wp2
          go_round
          case rel => exact ⟨k + 1, _, by omega, by go_num, rfl, O.out.1, O.out.2.1, osame_step hj O⟩
          case measure => simp [intOf]; omega
        · go_wp2
          go_ret
          exact ⟨ret_bool (osame_end H hlt hj), rfl⟩
  · have hq' : ((n : Int) != (n' : Int)) = true := by simp; omega
    have e : decide (l = m) = false := by
      have e1 := ha.len
      have e2 := hb.len
      simp
      intro h
      rw [h] at e1
      omega
    rw [e]
    clear e ha hb
    go_enter Tryz.func83, Tryz.ntmps83
    go_wp2
    go_ret
    exact ⟨rfl, rfl⟩

end Go.Proofs.YtfknplcnfpincaaGreat

/-
  The contracts of layer 6's New, Seal and Open. Conditions: the key lies where the pointer leads; what stands beside, and texts, of at most 600 bytes.
-/
namespace Go.Proofs.YtfknplcnfpincaaGreat
open Go.RowKit

theorem oGSealNot (w : World) {r : Nat} {K : List UInt8} {an ae at' : Option Addr} {n cn ne ce nt ct : Nat} (_hG : Gc w r K) (hn : ¬ n = 12) :
    Calls Tryz.prog 57 #[.pointer (some ⟨r, 0, none⟩), .slice an n cn, .slice ae ne ce, .slice at' nt ct] w fun e w' => e = .returned (.tuple #[.slice none 0 0, .int .i64 17]) ∧ Below w.heap.size w w' := by
  have h1 : ((n : Int) != 12) = true := by simp; omega
  go_enter Tryz.func57, Tryz.ntmps57
  go_wp2
  go_ret2
  exact ⟨rfl, Below.refl _ _⟩
theorem oGOpenNot (w : World) {r : Nat} {K : List UInt8} {an ae at' : Option Addr} {n cn ne ce nt ct : Nat} (_hG : Gc w r K) (hn : ¬ n = 12) :
    Calls Tryz.prog 66 #[.pointer (some ⟨r, 0, none⟩), .slice an n cn, .slice ae ne ce, .slice at' nt ct] w fun e w' => e = .returned (.tuple #[.slice none 0 0, .int .i64 17]) ∧ Below w.heap.size w w' := by
  have h1 : ((n : Int) != 12) = true := by simp; omega
  go_enter Tryz.func66, Tryz.ntmps66
  go_wp2
  go_ret2
  exact ⟨rfl, Below.refl _ _⟩
theorem oGOpenShort (w : World) {r : Nat} {K : List UInt8} {an ae at' : Option Addr} {cn ne ce nt ct : Nat} (_hG : Gc w r K) (hn : nt < 16) :
    Calls Tryz.prog 66 #[.pointer (some ⟨r, 0, none⟩), .slice an 12 cn, .slice ae ne ce, .slice at' nt ct] w fun e w' => e = .returned (.tuple #[.slice none 0 0, .int .i64 3]) ∧ Below w.heap.size w w' := by
  have h1 : ((12 : Int) != 12) = false := by decide
  have h2 : (nt : Int) < 16 := by omega
  go_enter Tryz.func66, Tryz.ntmps66
  go_wp2
  go_ret2
  exact ⟨rfl, Below.refl _ _⟩

set_option maxRecDepth 100000 in
set_option maxHeartbeats 2000000 in
theorem oGSeal (w : World) {r : Nat} {K nonce be t : List UInt8} {an ae at' : Option Addr} {cn ne ce nt ct : Nat} (hG : Gc w r K) (hK : K.length = 240) (hn : Bs w an 12 cn nonce) (hE : Bs w ae ne ce be) (hT : Bs w at' nt ct t) (hze : ne ≤ 600) (hzt : nt ≤ 600) :
    Calls Tryz.prog 57 #[.pointer (some ⟨r, 0, none⟩), .slice an 12 cn, .slice ae ne ce, .slice at' nt ct] w (GivesC w (sealL K nonce be t)) := by
  have HNL : Hid (nonce.length = 12) := hn.len
  have HSL : Hid ((strL K nonce t).length = nt) := by show _ = _; rw [strL_length hK HNL.out, hT.len]
  have HTL : Hid ((tagL K nonce be (strL K nonce t)).length = 16) := tagL_length hK HNL.out _ _
  have HS : Hid (sealL K nonce be t = strL K nonce t ++ tagL K nonce be (strL K nonce t)) := rfl
  have h1 : ((12 : Int) != 12) = false := by decide
  obtain ⟨Z, hZ⟩ : ∃ Z, Z = sealL K nonce be t := ⟨_, rfl⟩
  rw [← hZ] at HS ⊢
  clear hZ
  go_enter Tryz.func57, Tryz.ntmps57
  go_wp2_with fail
  refine (oHidden w hG hK hn hT (by omega)).mono ?_
  rintro e u1 ⟨p1, m1, x1, rfl, ho1, hG1⟩
  have hB1 := ho1.toBs
  have hm1 : m1 = nt := by rw [← hB1.len]; exact HSL.out
  subst hm1
  generalize strL K nonce t = s at *
  go_wp2_with fail
  refine (oTagG u1 (hG.below hG1) hK (hn.below hG1 (Nat.le_refl _)) (hE.below hG1 (Nat.le_refl _)) hB1 (by omega) (by omega)).mono ?_
  rintro e u2 ⟨p2, m2, x2, rfl, ho2, hG2⟩
  have hm2 : m2 = 16 := by rw [← ho2.toBs.len]; exact HTL.out
  subst hm2
  go_wp2_with fail
  refine (oJoin2 u2 (hB1.below hG2 (Nat.le_refl _)) ho2.toBs (by omega)).mono ?_
  rintro e u3 ⟨p3, m3, x3, rfl, ho3, hb3⟩
  rw [← HS.out] at ho3
  have q2 : Below w.heap.size w u2 := hG1.trans (hG2.mono hG1.size)
  go_wp2_with fail
  go_ret2
  exact ⟨p3, m3, x3, rfl, ho3.mono q2.size, q2.trans (hb3.mono q2.size)⟩

set_option maxRecDepth 100000 in
set_option maxHeartbeats 2000000 in
theorem oGOpen (w : World) {r : Nat} {K nonce be s : List UInt8} {an ae as' : Option Addr} {cn ne ce ns cs' : Nat} (hG : Gc w r K) (hK : K.length = 240) (hn : Bs w an 12 cn nonce) (hE : Bs w ae ne ce be) (hS : Bs w as' ns cs' s) (hze : ne ≤ 600) (hzs : ns ≤ 600) (h16 : 16 ≤ ns) :
    Calls Tryz.prog 66 #[.pointer (some ⟨r, 0, none⟩), .slice an 12 cn, .slice ae ne ce, .slice as' ns cs'] w (OpensC w (decide (tagL K nonce be (s.take (ns - 16)) = s.drop (ns - 16))) (strL K nonce (s.take (ns - 16)))) := by
  have HNL : Hid (nonce.length = 12) := hn.len
  have h1 : ((12 : Int) != 12) = false := by decide
  obtain ⟨m, hm⟩ : ∃ m, m = ns - 16 := ⟨_, rfl⟩
  have i0 : ¬ (ns : Int) < 16 := by omega
  have i1 : (ns : Int) - 16 = (m : Int) := by omega
  have i2 : (0 : Int) ≤ (m : Int) := by omega
  have i3 : (m : Int) ≤ (ns : Int) := by omega
  rw [← hm]
  have HM : Hid (m = ns - 16) := hm
  clear hm
  have hmn : m ≤ ns := by have := HM.out; omega
  obtain ⟨hhi, hhB⟩ := hS.cutHigh m hmn
  obtain ⟨p', x', hlo, hlB, _⟩ := hS.cutLow m hmn
  have hsH := hhB w hS
  have hsL := hlB w hS
  obtain ⟨A, hA⟩ : ∃ A, A = s.take m := ⟨_, rfl⟩
  obtain ⟨C, hC⟩ : ∃ C, C = s.drop m := ⟨_, rfl⟩
  rw [← hA] at hsH ⊢
  rw [← hC] at hsL ⊢
  clear hA hC hhB hlB
  obtain ⟨b, hb⟩ : ∃ b, b = decide (C = tagL K nonce be A) := ⟨_, rfl⟩
  have hb' : decide (tagL K nonce be A = C) = b := by rw [hb]; exact decide_eq_decide.2 eq_comm
  have HB : Hid (decide (tagL K nonce be A = C) = b) := hb'
  clear hb'
  go_enter Tryz.func66, Tryz.ntmps66
  go_wp2_with fail
  refine regionG (S := Grows w) (by kernel_rfl) (Below.refl _ w).drew ?_
  refine takeG 0 (some 20) (.slice as' ns cs') rfl rfl (by kernel_rfl) (by kernel_rfl) (by kernel_rfl) (fun _ _ _ h => h) (ans_plain (by rfl) (fun w _ => rfl)) ?_
  simp only [Act.put, List.setIfInBounds_toArray, List.set_cons_zero, List.set_cons_succ]
  refine takeG 1 (some 21) (.int .i64 (m : Int)) rfl rfl (by kernel_rfl) (by kernel_rfl) (by kernel_rfl) (fun _ _ _ h => h) (ans_plain (by rfl) (fun w _ => rfl)) ?_
  simp only [Act.put, List.setIfInBounds_toArray, List.set_cons_zero, List.set_cons_succ]
  refine takeG 2 (some 22) (.slice p' (ns - m) x') rfl rfl (by kernel_rfl) (by kernel_rfl) (by kernel_rfl) (fun _ _ _ h => h) (ans_lo (.tmp 20) (.tmp 21) rfl (by rfl) _ _ _ rfl rfl hlo) ?_
  simp only [Act.put, List.setIfInBounds_toArray, List.set_cons_zero, List.set_cons_succ]
  refine takeG 3 (some 23) (.pointer (some ⟨r, 0, none⟩)) rfl rfl (by kernel_rfl) (by kernel_rfl) (by kernel_rfl) (fun _ _ _ h => h) (ans_plain (by rfl) (fun w _ => rfl)) ?_
  simp only [Act.put, List.setIfInBounds_toArray, List.set_cons_zero, List.set_cons_succ]
  refine takeG 4 (some 24) (.slice an 12 cn) rfl rfl (by kernel_rfl) (by kernel_rfl) (by kernel_rfl) (fun _ _ _ h => h) (ans_plain (by rfl) (fun w _ => rfl)) ?_
  simp only [Act.put, List.setIfInBounds_toArray, List.set_cons_zero, List.set_cons_succ]
  refine takeG 5 (some 25) (.slice ae ne ce) rfl rfl (by kernel_rfl) (by kernel_rfl) (by kernel_rfl) (fun _ _ _ h => h) (ans_plain (by rfl) (fun w _ => rfl)) ?_
  simp only [Act.put, List.setIfInBounds_toArray, List.set_cons_zero, List.set_cons_succ]
  refine takeG 6 (some 26) (.slice as' ns cs') rfl rfl (by kernel_rfl) (by kernel_rfl) (by kernel_rfl) (fun _ _ _ h => h) (ans_plain (by rfl) (fun w _ => rfl)) ?_
  simp only [Act.put, List.setIfInBounds_toArray, List.set_cons_zero, List.set_cons_succ]
  refine takeG 7 (some 27) (.int .i64 (m : Int)) rfl rfl (by kernel_rfl) (by kernel_rfl) (by kernel_rfl) (fun _ _ _ h => h) (ans_plain (by rfl) (fun w _ => rfl)) ?_
  simp only [Act.put, List.setIfInBounds_toArray, List.set_cons_zero, List.set_cons_succ]
  refine takeG 8 (some 28) (.slice as' m cs') rfl rfl (by kernel_rfl) (by kernel_rfl) (by kernel_rfl) (fun _ _ _ h => h) (ans_hi (.tmp 26) (.tmp 27) rfl (by rfl) _ _ _ rfl rfl hhi) ?_
  simp only [Act.put, List.setIfInBounds_toArray, List.set_cons_zero, List.set_cons_succ]
  refine callG 9 (some 29) 72 #[.tmp 23, .tmp 24, .tmp 25, .tmp 28] #[104, 22, 22, 22] #[.pointer (some ⟨r, 0, none⟩), .slice an 12 cn, .slice ae ne ce, .slice as' m cs'] rfl rfl rfl (by rfl) (by rfl) (by kernel_rfl) Tryz.call72 fun u1 hg1 hs1 => ?_
  refine (oTagG u1 (hG.below hs1) hK (hn.grows hs1) (hE.grows hs1) (hsH.grows hs1) (by omega) (by omega)).mono ?_
  rintro e u2 ⟨p2, m2, x2, rfl, ho2, hG2⟩
  refine ⟨_, rfl, Grows.trans hs1 hG2, ?_⟩
  simp only [Act.put, List.setIfInBounds_toArray, List.set_cons_zero, List.set_cons_succ]
  refine callG 10 (some 30) 83 #[.tmp 22, .tmp 29] #[22, 22] #[.slice p' (ns - m) x', .slice p2 m2 x2] rfl rfl rfl (by rfl) (by rfl) (by kernel_rfl) Tryz.call83 fun u3 hg3 hs3 => ?_
  refine (oSame u3 (hsL.grows hs3) (ho2.toBs.grows hg3)).mono ?_
  rintro e u4 ⟨rfl, rfl⟩
  rw [← hb]
  refine ⟨_, rfl, hs3, ?_⟩
  simp only [Act.put, List.setIfInBounds_toArray, List.set_cons_zero, List.set_cons_succ]
  refine takeG 11 (some 31) (.bool (!b)) rfl rfl (by kernel_rfl) (by kernel_rfl) (by kernel_rfl) (fun _ _ _ h => h) (ans_plain (by rfl) (fun w _ => by unfold execOp; go_simp)) ?_
  simp only [Act.put, List.setIfInBounds_toArray, List.set_cons_zero, List.set_cons_succ]
  refine doneG (by kernel_rfl) fun u5 hg5 hs5 => ?_
  cases b with
  | false =>
    go_wp2_with fail
    go_ret2
    unfold OpensC
    rw [HB.out, if_neg (by decide)]
    exact ⟨rfl, hs5⟩
  | true =>
    go_wp2_with fail
    refine (oHidden u5 (hG.below hs5) hK (hn.grows hs5) (hsH.grows hs5) (by omega)).mono ?_
    rintro e u7 ⟨p7, m7, x7, rfl, ho7, hG7⟩
    go_wp2_with fail
    go_ret2
    unfold OpensC
    rw [HB.out, if_pos rfl]
    exact ⟨p7, m7, x7, rfl, ho7.mono (Below.size hs5), Grows.trans hs5 hG7⟩

end Go.Proofs.YtfknplcnfpincaaGreat

/-
  The builtin copy of bytes into the middle of a block that is known whole; the contract of layer 11's program's Noise: bytes of a number, in memory of the call's own. Conditions: the number fits 64 bits; at most 3000 bytes.
-/
namespace Go.Proofs.YtfknplcnfpincaaGreat
open Go.RowKit

/-- A row of the call's own that has no room left is a block. -/
theorem Own.blkF {w : World} {base g m : Nat} {l : List UInt8} (h : Own w base (.slice (some ⟨g, 0, none⟩) m m) l) (hl : l.length = m) : Blk w g (cs l) 5 := by
  obtain ⟨h1, h2⟩ := h
  rcases h2 with ⟨h2, _⟩ | ⟨g', cap, cur, hv, hg, hh, hn, hm, hc, ht⟩
  · simp at h2
  · simp only [Value.slice.injEq, Option.some.injEq, Addr.mk.injEq] at hv
    obtain ⟨⟨rfl, _, _⟩, e1, rfl⟩ := hv
    unfold Blk
    rw [hh]
    have e : cur = (cs l).toArray := by
      rw [← ht, List.take_of_length_le (by rw [Array.length_toList]; omega)]
    rw [e]
theorem Own.ofBlk {w : World} {base g m : Nat} {l : List UInt8} (h : Blk w g (cs l) 5) (hb : base ≤ g) (hl : l.length = m) (hm : m ≤ 1000000) : Own w base (.slice (some ⟨g, 0, none⟩) m m) l := by
  subst hl
  refine ⟨by rw [cs_length, Nat.mul_one], Or.inr ⟨g, l.length, (cs l).toArray, rfl, hb, h, Nat.le_refl _, by unfold maxLen; omega, by simp [cs_length], ?_⟩⟩
  rw [List.take_of_length_le (by simp [cs_length])]

/-- 'copy(x[i:], b)' into a block that is known whole: as many as there are in both, and how many. -/
theorem wpList_cpo {ops : Array Oper} {rest : List Oper} {o : Oper} {a : Act} {Q : Exit → Act → World → Prop} (w : World) (hgd : o.guard = none) (d s : Operand)
    (ho : o.op = .call { callee := .builtin .copy, args := #[d, s], argTypes := #[22, 22] }) (g off dl dc : Nat) (hd : a.eval d = .slice (some ⟨g, off, none⟩) dl dc)
    (sp : Option Addr) (m c : Nat) (hs : a.eval s = .slice sp m c) (l : List UInt8) (hb : Bs w sp m c l) (vs : List Value) (t : TypeId) (blk : Blk w g vs t) (hfit : off + dl ≤ vs.length) (k : Nat) (hk : k = min m dl)
    (h : ∀ w', Blk w' g (vs.take off ++ cs (l.take k) ++ vs.drop (off + k)) t → w.grownBy w' (some g) → wpList Tryz.prog ops Q rest (a.put o.dst (.int .i64 (k : Int))) w') : wpList Tryz.prog ops Q (o :: rest) a w := by
  have hl := hb.len
  obtain ⟨i0, hi, hz0, hz1, hz2⟩ := info_parts info5
  have hsz : (Tryz.prog.info? 5).map (·.size) = some 1 := by rw [hi]; simp [hz1]
  by_cases h0 : k = 0
  · subst h0
    refine wpList_copy_nothing hgd d s 22 22 ho 5 Tryz.underlying22 hsz _ sp dl dc m c hd hs hk.symm ?_
    exact h w (by simpa [cs] using blk) (World.grownBy.refl _ _)
  · obtain ⟨b, o', rfl, _, _⟩ := hb.at (by omega)
    have hcl : (cs (l.take k)).length = k := by rw [cs_length, List.length_take, hl]; omega
    refine wpList_copy_own hgd d s 22 22 ho 5 Tryz.underlying22 hsz g off dl dc ⟨b, o', none⟩ m c hd hs vs.toArray t blk (cs (l.take k)) (by rw [hcl]; exact hk) (fun j v hj => hb.news j v (cs_sub' hj)) (by rw [hcl]; simp; omega) cs_one ?_
    rw [hcl]
    refine h _ ?_ ⟨rfl, rfl, rfl, by simp [World.setRow], fun j _ hj => setRow_other w g j _ (by simpa using hj)⟩
    unfold Blk
    rw [setRow_heap w g _ _ t (0, 0) blk, List.append_assoc]

theorem noiseL_small (n : Nat) {j : Nat} (h : j ≤ 8) : noiseL n j = (putL n 8).take j := by
  unfold noiseL
  rw [List.take_append_of_le_length (by rw [putL_length]; exact h)]
theorem noiseL_step (n : Nat) {j : Nat} (h : 8 ≤ j) : noiseL n (j + 1) = noiseL n j ++ [lcgB n (j - 8)] := by
  unfold noiseL
  rw [show j + 1 - 8 = (j - 8) + 1 from by omega, lcgL_succ, ← List.append_assoc]
  rw [List.take_of_length_le (by simp [putL_length, lcgL_length]; omega), List.take_of_length_le (by simp [putL_length, lcgL_length]; omega)]
theorem noise_set (n : Nat) {j m : Nat} (h : 8 ≤ j) (hm : j < m) : (noiseL n j ++ List.replicate (m - j) 0).set j (lcgB n (j - 8)) = noiseL n (j + 1) ++ List.replicate (m - (j + 1)) 0 := by
  rw [noiseL_step n h, List.set_append_right _ _ (by rw [noiseL_length]; exact Nat.le_refl _), noiseL_length, Nat.sub_self, show m - j = (m - (j + 1)) + 1 from by omega, List.replicate_succ, List.set_cons_zero, List.append_assoc]
  rfl
theorem noise_start (n m : Nat) : (cs (List.replicate m 0)).take 0 ++ cs ((putL n 8).take (min 8 m)) ++ (cs (List.replicate m 0)).drop (0 + min 8 m) = cs (noiseL n (min 8 m) ++ List.replicate (m - min 8 m) 0) := by
  rw [noiseL_small n (Nat.min_le_left _ _), cs_append, List.take_zero, List.nil_append, Nat.zero_add]
  congr 1
  simp [cs, List.drop_replicate]
theorem lcg_int (x : Nat) : IntKind.u64.wrap (IntKind.u64.wrap ((x : Int) * 6364136223846793005) + 1442695040888963407) = (lcg x : Nat) := by
  rw [IntKind.wrap_u64, IntKind.wrap_u64]
  unfold lcg
  omega
theorem lcg_byte {x : Nat} (h : x < 18446744073709551616) : ((UInt8.ofNat (x / 72057594037927936)).toNat : Int) = (x : Int) / 72057594037927936 := by
  rw [UInt8.toNat_ofNat']
  omega

set_option maxHeartbeats 1000000 in
theorem oNoise (n s : Int) (w : World) (hs : s ≤ 3000) (hn0 : 0 ≤ n) (hn : n ≤ 18446744073709551615) (hlo : -9223372036854775808 ≤ s) :
    Calls Tryz.prog 54 #[.int .u64 n, .int .i64 s] w (Gives w (noiseL n.toNat s.toNat)) := by
  by_cases h1 : s < 1
  · have e : s.toNat = 0 := by omega
    rw [e, show noiseL n.toNat 0 = [] from rfl]
    clear e
    go_enter Tryz.func54, Tryz.ntmps54
    go_wp2_with fail
    go_ret
    exact Gives.mk (Own.nil _ _) (Below.refl _ _)
  · obtain ⟨m, rfl⟩ : ∃ m : Nat, s = m := ⟨s.toNat, by omega⟩
    obtain ⟨n, rfl⟩ : ∃ q : Nat, n = q := ⟨n.toNat, by omega⟩
    rw [Int.toNat_natCast, Int.toNat_natCast]
    have h2 : ¬ (2147483647 : Int) < m := by omega
    go_enter Tryz.func54, Tryz.ntmps54
    go_wp2_with (at_make; refine wpList_mkn _ rfl _ _ rfl w.heap.size m _ rfl rfl rfl (by omega) (Nat.le_refl _) ?_; intro g w1 hg hgl hown hbel)
    have hB : Blk w1 g (cs (List.replicate m 0)) 5 := hown.blkF (by simp)
    refine (oPut (n : Int) 8 w1 (by omega) (by omega) (by omega) (by omega)).mono ?_
    rintro e w2 ⟨a2, m2, c2, rfl, o2, hb2⟩
    have hB2 := hB.below hb2 hB.lt
    have hp := o2.toBs
    have hm2 : m2 = 8 := by have := hp.len; rw [Int.toNat_natCast, putL_length] at this; omega
    subst hm2
    rw [Int.toNat_natCast] at hp
    have hk2 : Below w.heap.size w w2 := hbel.trans (hb2.mono hbel.size)
    clear o2 hb2 hB hown hbel
    go_wp2_with ((with_reducible refine at_cp ?_); (refine wpList_cpo _ rfl _ _ rfl g 0 m m rfl a2 8 c2 rfl _ hp _ _ hB2 (by simp [cs_length]) (min 8 m) rfl ?_); intro w3 hB3 hg3)
    have HL : Hid (min 8 m ≤ m ∧ (min 8 m = 8 ∨ min 8 m = m)) := by refine ⟨?_, ?_⟩ <;> omega
    rw [show Int.toNat 8 = 8 from rfl, noise_start] at hB3
    have hO3 : Own w3 w.heap.size (.slice (some ⟨g, 0, none⟩) m m) (noiseL n (min 8 m) ++ List.replicate (m - min 8 m) 0) := Own.ofBlk hB3 hg (by rw [List.length_append, noiseL_length, List.length_replicate]; omega) (by omega)
    have hk3 : Below w.heap.size w w3 := below_of_but hk2 hg3 hg hk2.size
    have hx0 : lcgI n (min 8 m - 8) = n := by rw [show min 8 m - 8 = 0 from by omega]; rfl
    generalize min 8 m = j0 at *
    clear hB2 hp hk2 hB3 hg3
    go_loopw [6, 7] (fun x i wr => ∃ j : Nat, j0 ≤ j ∧ j ≤ m ∧ i = .int .i64 (j : Int) ∧ x = .int .u64 ((lcgI n (j - 8) : Nat) : Int) ∧ Own wr w.heap.size (.slice (some ⟨g, 0, none⟩) m m) (noiseL n j ++ List.replicate (m - j) 0) ∧ Below w.heap.size w wr) (fun _ i _ => m - (intOf i).toNat)
    case atStart => exact ⟨j0, Nat.le_refl _, HL.out.1, rfl, by rw [hx0], hO3, hk3⟩
    case round =>
      obtain ⟨j, hj0, hj, rfl, rfl, ho, hb⟩ := hrel
      clear hO3 hk3 hx0
      by_cases hlt : j < m
      · have h8 : 8 ≤ j := by have := HL.out; omega
        have hlen : (noiseL n j ++ List.replicate (m - j) (0 : UInt8)).length = m := by rw [List.length_append, noiseL_length, List.length_replicate]; omega
        obtain ⟨v0, hcell⟩ := ho.cell hlen j hlt
        have hfr := ho.free hlen j
        have ho2 := ho.set hlen j (lcgB n (j - 8))
        have hb2 := hb.setCell (p := ⟨g, j, none⟩) hg (.int .u8 ((lcgB n (j - 8)).toNat : Int))
        rw [noise_set n h8 hlt] at ho2
        obtain ⟨x, hx⟩ : ∃ x, x = lcgI n (j - 8) := ⟨_, rfl⟩
        have hy : lcg x = lcgI n (j + 1 - 8) := by rw [hx, show j + 1 - 8 = (j - 8) + 1 from by omega]; rfl
        have hu : ((lcgB n (j - 8)).toNat : Int) = (lcg x : Int) / 72057594037927936 := by rw [← lcg_byte (lcg_lt x), hx]; rfl
        rw [hu] at ho2 hb2
        rw [← hx]
        have hw := lcg_int x
        have hxl : x < 18446744073709551616 := by rw [hx]; exact lcgI_lt (by omega) _
        have hyl : lcg x < 18446744073709551616 := lcg_lt x
        have HY : Hid (lcg x = lcgI n (j + 1 - 8)) := hy
        clear hx hu hy
        generalize lcg x = y at *
        have HO : Hid (Own (wr.setCell ⟨g, j, none⟩ (.int .u8 ((y : Int) / 72057594037927936))) w.heap.size (.slice (some ⟨g, 0, none⟩) m m) (noiseL n (j + 1) ++ List.replicate (m - (j + 1)) 0)) := ho2
        have HB : Hid (Below w.heap.size w (wr.setCell ⟨g, j, none⟩ (.int .u8 ((y : Int) / 72057594037927936)))) := hb2
        clear ho2 hb2 hlen ho hb
        go_wp2_with fail
        go_roundw
        case rel => exact ⟨j + 1, by omega, by omega, by go_num, by rw [HY.out], HO.out, HB.out⟩
        case measure => simp [intOf]; omega
      · have hjm : j = m := by omega
        subst hjm
        have HO : Hid (Own wr w.heap.size (.slice (some ⟨g, 0, none⟩) j j) (noiseL n j)) := by have := ho; rwa [Nat.sub_self, List.replicate_zero, List.append_nil] at this
        clear ho
        go_wp2_with fail
        go_ret
        exact Gives.mk HO.out hb

end Go.Proofs.YtfknplcnfpincaaGreat
