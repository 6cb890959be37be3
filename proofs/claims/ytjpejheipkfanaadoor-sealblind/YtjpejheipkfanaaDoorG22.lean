/-
  7 texts in one. No statement of the seat is proved here.
-/
import Derived.Test.YtjpejheipkfanaaDoorG21
import Derived.Deep.Matrix
/-
  The contracts of the reference's Pack and SameAll, and of Short. Conditions: of Pack as of the program's; of the others none.
-/
namespace Go.Proofs.YtjpejheipkfanaaDoor
open Go.RowKit

theorem parts_inj {l m : List (List UInt8)} {n k : Nat} (H : Hid (l.length = n ∧ m.length = n)) (h : ¬ k < n) (hj : ∀ j, j < k → l.getD j [] = m.getD j []) : true = decide (l = m) := by
  symm
  rw [decide_eq_true_iff]
  obtain ⟨h1, h2⟩ := H.out
  apply List.ext_getElem (by omega)
  intro i h3 h4
  have := hj i (by omega)
  simpa [List.getD_eq_getElem?_getD, h3, h4] using this
theorem parts_no {l m : List (List UInt8)} {k : Nat} (h : ¬ l.getD k [] = m.getD k []) : false = decide (l = m) := by
  symm
  rw [decide_eq_false_iff_not]
  intro e
  subst e
  exact h rfl
theorem parts_step {l m : List (List UInt8)} {k : Nat} (H : Hid (∀ j, j < k → l.getD j [] = m.getD j [])) (h : l.getD k [] = m.getD k []) (j : Nat) (hj : j < k + 1) : l.getD j [] = m.getD j [] := by
  by_cases e : j = k
  · subst e; exact h
  · exact H.out j (by omega)
set_option maxHeartbeats 400000 in
theorem rSameAll (w : World) {a b : Option Addr} {n c n' c' : Nat} {l m : List (List UInt8)} (ha : Bss w a n c l) (hb : Bss w b n' c' m) :
    Calls Tryd.prog 17 #[.slice a n c, .slice b n' c'] w fun e w' => e = .returned (.bool (decide (l = m))) ∧ ∃ k, w' = w.drewN k := by
  have h1 := ha.max
  have h2 := hb.max
  by_cases hn : n = n'
  · subst hn
    by_cases h0 : n = 0
    · subst h0
      have e : decide (l = m) = true := by
        have e1 := ha.len
        have e2 := hb.len
        simp at e1 e2
        simp [e1, e2]
      rw [e]
      clear e ha hb
      go_enter Tryd.func17, Tryd.ntmps17
      go_wp2_with fail
      refine wp_loop_rounds 1 ?_; rw [rounds_succ]; go_wp2_with fail
      go_ret
      exact ⟨rfl, 0, rfl⟩
    · obtain ⟨x, o, rfl, hx, hc⟩ := ha.at (by omega)
      obtain ⟨y, q, rfl, hy, hd⟩ := hb.at (by omega)
      have e1 := ha.len
      have e2 := hb.len
      have H : Hid (l.length = n ∧ m.length = n) := ⟨e1, e2⟩
      clear e1 e2 ha hb
      go_enter Tryd.func17, Tryd.ntmps17
      go_wp2_with fail
      go_loopw [5] (fun i wr => ∃ k : Nat, k ≤ n ∧ i = .int .i64 k ∧ (∃ d, wr = w.drewN d) ∧ ∀ j, j < k → l.getD j [] = m.getD j []) (fun i _ => n - (intOf i).toNat)
      case atStart => exact ⟨0, Nat.zero_le _, rfl, ⟨0, rfl⟩, fun j hj => by omega⟩
      case round =>
        obtain ⟨k, hk, rfl, ⟨d, hwr⟩, hj⟩ := hrel
        by_cases hlt : k < n
        · obtain ⟨p1, m1, q1, c1, hp1⟩ := hc k hlt
          obtain ⟨p2, m2, q2, c2, hp2⟩ := hd k hlt
          have H2 : Hid (∀ j, j < k → l.getD j [] = m.getD j []) := hj
          have c1 : wr.cell? ⟨x, o + k, none⟩ = some (.slice p1 m1 q1) := by rw [hwr]; exact c1
          have c2 : wr.cell? ⟨y, q + k, none⟩ = some (.slice p2 m2 q2) := by rw [hwr]; exact c2
          have hp1 : Bs wr p1 m1 q1 (l.getD k []) := by rw [hwr]; exact hp1.drewN d
          have hp2 : Bs wr p2 m2 q2 (m.getD k []) := by rw [hwr]; exact hp2.drewN d
          have HW : Hid (wr = w.drewN d) := hwr
          clear hwr
          clear hj hc hd
          by_cases hq : l.getD k [] = m.getD k []
          · have hS : Hid (∀ d', Calls Tryd.prog 13 #[.slice p1 m1 q1, .slice p2 m2 q2] (wr.drewN d') fun e w' => e = .returned (.bool true) ∧ ∃ k, w' = (wr.drewN d').drewN k) := fun d' => by
              have := rSame (wr.drewN d') (hp1.drewN d') (hp2.drewN d')
              rw [show decide (l.getD k [] = m.getD k []) = true from by rw [decide_eq_true_iff]; exact hq] at this
              exact this
            have HQ : Hid (l.getD k [] = m.getD k []) := hq
            clear hq hp1 hp2
            go_wp2_with fail
            go_quiet ((go_at_call 13; exact Calls.quiet_of (hS.out _)))
            go_wp2_with fail
            go_roundw
            case rel => exact ⟨k + 1, by omega, by go_num, ⟨_, by rw [HW.out, World.drewN_drewN]⟩, fun j hj => parts_step H2 HQ.out j hj⟩
            case measure => simp [intOf]; omega
          · have hS : Hid (∀ d', Calls Tryd.prog 13 #[.slice p1 m1 q1, .slice p2 m2 q2] (wr.drewN d') fun e w' => e = .returned (.bool false) ∧ ∃ k, w' = (wr.drewN d').drewN k) := fun d' => by
              have := rSame (wr.drewN d') (hp1.drewN d') (hp2.drewN d')
              rw [show decide (l.getD k [] = m.getD k []) = false from by rw [decide_eq_false_iff_not]; exact hq] at this
              exact this
            have HQ : Hid (¬ l.getD k [] = m.getD k []) := hq
            clear hq hp1 hp2
            go_wp2_with fail
            go_quiet ((go_at_call 13; exact Calls.quiet_of (hS.out _)))
            go_wp2_with fail
            go_ret
            exact ⟨ret_bool (parts_no HQ.out), _, by rw [HW.out, World.drewN_drewN]⟩
        · have HW : Hid (wr = w.drewN d) := hwr
          clear hwr
          go_wp2_with fail
          go_ret
          exact ⟨ret_bool (parts_inj H hlt hj), d, HW.out⟩
  · have hq' : ((n : Int) != (n' : Int)) = true := by simp; omega
    have e : decide (l = m) = false := by
      have e1 := ha.len
      have e2 := hb.len
      simp
      intro h
      rw [h] at e1
      omega
    rw [e]
    clear e ha hb
    go_enter Tryd.func17, Tryd.ntmps17
    go_wp2_with fail
    go_ret
    exact ⟨rfl, 0, rfl⟩

end Go.Proofs.YtjpejheipkfanaaDoor

/-
  What layer 1's laws ask of Same and Xor, together. No condition; no statement of the seat is proved here.
-/
namespace Go.Proofs.YtjpejheipkfanaaDoor

end Go.Proofs.YtjpejheipkfanaaDoor

/-
  Plain mathematics: two lists of parts, each with its length ahead, are the same bytes just if they are the same. Condition: fewer than 1000000 bytes in all.
-/
namespace Go.Proofs.YtjpejheipkfanaaDoor
open Go.RowKit

theorem put4_inj {n m : Nat} (hn : n ≤ 1000000) (hm : m ≤ 1000000) (h : putL n 4 = putL m 4) : n = m := by
  have e := congrArg getN h
  rw [getN_putL, getN_putL, show (256 : Nat) ^ 4 = 4294967296 from by decide] at e
  omega

theorem pack_inj (l : List (List UInt8)) : ∀ m, tot l ≤ 1000000 → tot m ≤ 1000000 → packL l = packL m → l = m := by
  induction l with
  | nil =>
    intro m _ _ h
    have e := congrArg List.length h
    rw [packL_length, packL_length] at e
    cases m with
    | nil => rfl
    | cons y q => simp [tot] at e
  | cons x r ih =>
    intro m hl hm h
    cases m with
    | nil =>
      have e := congrArg List.length h
      rw [packL_length, packL_length] at e
      simp [tot] at e
    | cons y q =>
      simp only [packL, List.append_assoc] at h
      obtain ⟨h1, h2⟩ := List.append_inj h (by rw [putL_length, putL_length])
      simp only [tot] at hl hm
      have hxy := put4_inj (by omega) (by omega) h1
      obtain ⟨h3, h4⟩ := List.append_inj h2 hxy
      rw [h3, ih q (by omega) (by omega) h4]

theorem pack_same (l m : List (List UInt8)) (hl : tot l ≤ 1000000) (hm : tot m ≤ 1000000) : decide (packL l = packL m) = decide (l = m) := by
  rw [Bool.eq_iff_iff, decide_eq_true_iff, decide_eq_true_iff]
  exact ⟨pack_inj l m hl hm, fun h => by rw [h]⟩
theorem xor_twice (l m : List UInt8) : xorL (xorL l m) m = l.take (xorL (xorL l m) m).length := by
  unfold xorL
  induction l generalizing m with
  | nil => simp
  | cons x r ih =>
    cases m with
    | nil => simp
    | cons y q =>
      simp only [List.zipWith_cons_cons, List.length_cons, List.take_succ_cons, List.cons.injEq]
      refine ⟨?_, ih q⟩
      rw [UInt8.xor_assoc, UInt8.xor_self, UInt8.xor_zero]
end Go.Proofs.YtjpejheipkfanaaDoor

/-
  Rows of regions for layer 12's statements: a key of a number, a literal of one slice, whichever comes first. No condition; no statement of the seat is proved here.
-/
namespace Go.Proofs.YtjpejheipkfanaaDoor
open Go.RowKit
set_option linter.unusedVariables false

theorem elO12.keep {A : Nat → Prop} {w w' : World} (hs : w.heap.size ≤ w'.heap.size) (hk : ∀ j, j < w.heap.size → A j → w'.heap[j]? = w.heap[j]?) : ∀ c vs, elO12 A w c vs → elO12 A w' c vs := by
  rintro c vs ⟨p, m, q, p', m', q', e, h1, h2, hf⟩
  exact ⟨p, m, q, p', m', q', e, h1.keep hs hk, h2.keep hs hk, hf⟩
theorem Acts12.grow {w w' : World} {a : Option Addr} {n c : Nat} {l : List Op12} (h : Acts12 w a n c l) (hb : Below w.heap.size w w') : ActsA (fun j => j < w.heap.size) w' a n c l :=
  Sl.keep h hb.size (elO12.keep hb.size fun j hj _ => hb.block j hj) fun j hj _ => hb.block j hj
theorem ActsA.grow {A : Nat → Prop} {w w' : World} {a : Option Addr} {n c : Nat} {l : List Op12} (h : ActsA A w a n c l) (hb : Below w.heap.size w w') : ActsA A w' a n c l :=
  Sl.keep h hb.size (elO12.keep hb.size fun j hj _ => hb.block j hj) fun j hj _ => hb.block j hj
theorem Grows.ofDrew {w u : World} (h : Grows w.drew u) : Below w.heap.size w u := (Below.refl _ w).drew.trans h
/-- What key leaves. -/
def KeyV (U : Nat → Prop) (n : Nat) (v : Value) (w : World) : Prop := ∃ g, v = .slice (some ⟨g, 0, none⟩) 32 32 ∧ BA (fun j => ¬ U j) w (some ⟨g, 0, none⟩) 32 32 (keyB n)
theorem KeyV.grow {U : Nat → Prop} {n : Nat} (v : Value) (w w' : World) (h : KeyV U n v w) (hg : Grows w w') : KeyV U n v w' := by
  obtain ⟨g, h1, h2⟩ := h
  exact ⟨g, h1, h2.below' hg⟩
/-- What a literal of one slice leaves. -/
def OneV (l : List UInt8) (v : Value) (w : World) : Prop := ∃ p, v = .slice p 1 1 ∧ Bss w p 1 1 [l]
theorem OneV.grow {l : List UInt8} (v : Value) (w w' : World) (h : OneV l v w) (hg : Grows w w') : OneV l v w' := by
  obtain ⟨p, h1, h2⟩ := h
  exact ⟨p, h1, h2.below hg (Nat.le_refl _)⟩
/-- What a nonce leaves. -/
def NonV (U : Nat → Prop) (h l : Nat) (v : Value) (w : World) : Prop := ∃ p c, v = .slice p 12 c ∧ BA (fun j => ¬ U j) w p 12 c (nonL h l)
theorem cKey {U : Nat → Prop} {W : World} (hU : ∀ j, U j → j < W.heap.size) (n : Nat) (hn : n ≤ 255) : ∀ w, Grows W w → Calls Tryd.prog 11 #[.int .u8 (n : Int)] w fun e w' => ∃ v, e = .returned v ∧ KeyV U n v w' ∧ Below w.heap.size w w' := fun w hg => (lKey12 w n hn).mono fun e w' ⟨g, he, _, ho, hb⟩ => ⟨_, he, ⟨g, rfl, ho.no fun j hj => Nat.lt_of_lt_of_le (hU j hj) (Below.size hg)⟩, hb⟩
theorem cNon {U : Nat → Prop} {W : World} (hU : ∀ j, U j → j < W.heap.size) (h l : Nat) (hh : h ≤ 18446744073709551615) (hl : l ≤ 4294967295) : ∀ w, Grows W w → Calls Tryd.prog 9 #[.int .u64 (h : Int), .int .u32 (l : Int)] w fun e w' => ∃ v, e = .returned v ∧ NonV U h l v w' ∧ Below w.heap.size w w' := fun w hg => (oSNonce w h l hh hl).mono fun e w' ⟨a, m, c, he, ho, hb⟩ => by
  have hm := ho.toBs.len
  rw [nonL_length] at hm
  subst hm
  exact ⟨_, he, ⟨a, c, rfl, ho.no fun j hj => Nat.lt_of_lt_of_le (hU j hj) (Below.size hg)⟩, hb⟩
/-- A literal of one slice, wanted. -/
theorem opBS1w {ops : Array Oper} {Q : Exit → Act → World → Prop} {i : Nat} {oi : Oper} (d : Option Tmp) (hi : ops[i]? = some oi) (hd : oi.dst = d) (x : Operand) (ho : oi.op = .buildSlice 40 1 #[(0, x)]) {K : Act → World → Prop} {a : Act} {w : World} (hw : Region.wanted oi (yielded ops a.tmps) = true) (s : Option Addr) (n c : Nat) (hx : a.eval x = .slice s n c)
    (k : K (a.put d (.slice (some ⟨w.heap.size, 0, none⟩) 1 1)) (w.alloc (.cells #[.slice s n c] 22))) : wpOp Tryd.prog ops Q i K a w := by
  subst hd
  have hK : Hid _ := k
  clear k
  unfold wpOp
  simp only [hi]
  rw [if_pos hw]
  left
  unfold Oper.wp execOp
  simp only [ho, List.map_toArray, List.map_cons, List.map_nil, hx]
  go_simp
  exact hK.out
theorem mkOne {ops : Array Oper} {Q : Exit → Act → World → Prop} {W : World} (i : Nat) (d : Tmp) (x : Operand) (l : List UInt8) {oi : Oper} {a : Act} (hi : ops[i]? = some oi) (hd : oi.dst = some d) (ho : oi.op = .buildSlice 40 1 #[(0, x)]) (hw : Region.wanted oi (yielded ops a.tmps) = true) (s : Option Addr) (n c : Nat) (hx : a.eval x = .slice s n c) (hb : ∀ w, Grows W w → Bs w s n c l) : Mk Tryd.prog ops Q (Grows W) i d (OneV l) a := by
  intro K w hs k
  refine opBS1w (some d) hi hd x ho hw s n c hx ?_
  exact k _ _ ⟨_, rfl, Bss.one1 (hb w hs)⟩ (below_alloc _ _) (Grows.trans hs (below_alloc _ _))
/-- Numbers of noise tell keys and ends apart. -/
theorem keys_apart {S : SeaS} (h : S.Ok) {a b : Nat} {l m : List (List UInt8)} {c c' : Kid} (hl : tot l ≤ 1000000) (hm : tot m ≤ 1000000) (hc : S.kid (keyB a) (packL l) = some c) (hc' : S.kid (keyB b) (packL m) = some c') : decide (noiseL c.num 32 = noiseL c'.num 32) = (decide (a % 4 = b % 4) && decide (l = m)) := by
  have hb := h.bound
  have h1 := h.kids c (List.mem_of_find?_eq_some hc)
  have h2 := h.kids c' (List.mem_of_find?_eq_some hc')
  rw [Bool.eq_iff_iff]
  simp only [decide_eq_true_eq, Bool.and_eq_true]
  rw [noise_inj (by omega) (by omega) (by omega), SeaS.num_apart h hc hc', keyB_inj]
  constructor
  · rintro ⟨x, y⟩
    exact ⟨x, pack_inj l m hl hm y⟩
  · rintro ⟨x, rfl⟩
    exact ⟨x, rfl⟩

end Go.Proofs.YtjpejheipkfanaaDoor

/-
  Regions that draw their order in which a literal floats between calls that write; what comes of ideal sealers of the same count and keys. No condition; no statement of the seat is proved here.
-/
namespace Go.Proofs.YtjpejheipkfanaaDoor
open Go.RowKit
set_option linter.unusedVariables false

/-- A call, wherever it comes. -/
theorem opCallW {ops : Array Oper} {Q : Exit → Act → World → Prop} (i : Nat) (d : Option Tmp) (f : FuncId) (args : Array Operand) (tys : Array TypeId) (vs : Array Value) {oi : Oper} {K : Act → World → Prop} {a : Act} {w : World} (hi : ops[i]? = some oi) (hd : oi.dst = d)
    (ho : oi.op = .call { callee := .value (.func f), args := args, argTypes := tys }) (hw : Region.wanted oi (yielded ops a.tmps) = true) (hv : (args.toList.map a.eval).toArray = vs) (hc : ∀ vs w, (callFunc f vs).run Tryd.prog w = .ok (.enter f vs) w)
    (h : Calls Tryd.prog f vs w fun x w' => ∃ v, x = .returned v ∧ K (a.put d v) w') : wpOp Tryd.prog ops Q i K a w := by
  subst hd
  have hv' : args.map a.eval = vs := by rw [← hv]; apply Array.toList_inj.1; rw [Array.toList_map]
  subst hv'
  unfold wpOp
  simp only [hi]
  rw [if_pos hw]
  left
  unfold Oper.wp
  have hx : (execOp a.eval oi).run Tryd.prog w = .ok (.enter f (args.map a.eval)) w := by simp [execOp, ho, resolve, invoke, Act.eval, Deferred.ofValue, hc]
  rw [hx, Oper.upon_enter]
  refine h.mono ?_
  rintro x w' ⟨v, rfl, hh⟩
  exact hh
/-- Two that may come up. -/
theorem fork2G {P : Program} {ops : Array Oper} {Q : Exit → Act → World → Prop} {md : Region.Mode} {S : World → Prop} (i j : Nat) {fuel : Nat} {listed : Array Bool} {a : Act} {w : World} (hr : Region.ready md ops listed = [i, j])
    (h : ∀ w', Grows w w' → S w' → wpOp P ops Q i (fun a' w'' => S w'' ∧ wpAnyG P md ops Q S fuel (listed.setIfInBounds i true) a' w'') a w')
    (k : ∀ w', Grows w w' → S w' → wpOp P ops Q j (fun a' w'' => S w'' ∧ wpAnyG P md ops Q S fuel (listed.setIfInBounds j true) a' w'') a w') : wpAnyG P md ops Q S (fuel + 1) listed a w :=
  fun w' hg hS => ⟨fun h0 => (by rw [h0] at hr; cases hr), fun x hx => by
    rw [hr] at hx
    rcases List.mem_cons.1 hx with rfl | hx
    · exact h w' hg hS
    · rw [List.mem_singleton.1 hx]
      exact k w' hg hS⟩
/-- Three that make memory, whichever comes first; behind the first two another may come up ahead of the third. -/
theorem fork3G {P : Program} {ops : Array Oper} {Q : Exit → Act → World → Prop} {md : Region.Mode} {S : World → Prop} (i j l : Nat) (d e f : Tmp) (A B C : Value → World → Prop) (hij : i ≠ j) (hil : i ≠ l) (hjl : j ≠ l) (hde : d ≠ e) (hdf : d ≠ f) (hef : e ≠ f)
    (sA : ∀ v w w', A v w → Grows w w' → A v w') (sB : ∀ v w w', B v w → Grows w w' → B v w') (sC : ∀ v w w', C v w → Grows w w' → C v w') {fuel : Nat} {listed : Array Bool} {a : Act} {w : World}
    (mi : Mk P ops Q S i d A a) (mie : ∀ v, Mk P ops Q S i d A (a.put (some e) v)) (mif : ∀ v, Mk P ops Q S i d A (a.put (some f) v)) (mief : ∀ v u, Mk P ops Q S i d A ((a.put (some f) v).put (some e) u))
    (mj : Mk P ops Q S j e B a) (mjd : ∀ v, Mk P ops Q S j e B (a.put (some d) v)) (mjf : ∀ v, Mk P ops Q S j e B (a.put (some f) v)) (mjdf : ∀ v u, Mk P ops Q S j e B ((a.put (some d) v).put (some f) u)) (mjfd : ∀ v u, Mk P ops Q S j e B ((a.put (some f) v).put (some d) u))
    (ml : Mk P ops Q S l f C a) (mld : ∀ v, Mk P ops Q S l f C (a.put (some d) v)) (mle : ∀ v, Mk P ops Q S l f C (a.put (some e) v)) (miel : ∀ v u, Mk P ops Q S i d A ((a.put (some e) v).put (some f) u))
    (hr : Region.ready md ops listed = [i, j, l])
    (ri : Region.ready md ops (listed.setIfInBounds i true) = [j, l]) (rj : Region.ready md ops (listed.setIfInBounds j true) = [i, l]) (rl : Region.ready md ops (listed.setIfInBounds l true) = [i, j])
    (ril : Region.ready md ops ((listed.setIfInBounds i true).setIfInBounds l true) = [j]) (rjl : Region.ready md ops ((listed.setIfInBounds j true).setIfInBounds l true) = [i])
    (rli : Region.ready md ops ((listed.setIfInBounds l true).setIfInBounds i true) = [j]) (rlj : Region.ready md ops ((listed.setIfInBounds l true).setIfInBounds j true) = [i])
    (h2 : ∀ u v w', A u w' → B v w' → Grows w w' → S w' → wpAnyG P md ops Q S (fuel + 1) ((listed.setIfInBounds i true).setIfInBounds j true) ((a.put (some d) u).put (some e) v) w')
    (h3 : ∀ u v x w', A u w' → B v w' → C x w' → Grows w w' → S w' → wpAnyG P md ops Q S fuel (((listed.setIfInBounds i true).setIfInBounds j true).setIfInBounds l true) (((a.put (some d) u).put (some e) v).put (some f) x) w') : wpAnyG P md ops Q S (fuel + 1 + 1 + 1) listed a w := by
  have pc : ∀ (b : Act) {x y : Tmp} (u v : Value), x ≠ y → (b.put (some x) u).put (some y) v = (b.put (some y) v).put (some x) u := fun b x y u v hxy => Act.put_comm b u v (fun z hz he => by cases hz; cases he; exact hxy rfl)
  have sc : ∀ (L : Array Bool) {x y : Nat}, x ≠ y → (L.setIfInBounds x true).setIfInBounds y true = (L.setIfInBounds y true).setIfInBounds x true := fun L x y hxy => Array.setIfInBounds_comm _ _ hxy
  intro w' hg hs
  refine ⟨fun h0 => (by rw [h0] at hr; cases hr), fun y hy => ?_⟩
  rw [hr] at hy
  rcases List.mem_cons.1 hy with rfl | hy
  · refine mi _ _ hs fun u w1 hA g1 hs1 => ⟨hs1, ?_⟩
    refine fork2G j l ri (fun w2 g2 hs2 => ?_) (fun w2 g2 hs2 => ?_)
    · exact mjd u _ _ hs2 fun v w3 hB g3 hs3 => ⟨hs3, h2 u v w3 (sA _ _ _ (sA _ _ _ hA g2) g3) hB (hg.trans (g1.trans (g2.trans g3))) hs3⟩
    · refine mld u _ _ hs2 fun x w3 hC g3 hs3 => ⟨hs3, oneG j ril fun w4 g4 hs4 => ?_⟩
      refine mjdf u x _ _ hs4 fun v w5 hB g5 hs5 => ⟨hs5, ?_⟩
      have := h3 u v x w5 (sA _ _ _ (sA _ _ _ (sA _ _ _ (sA _ _ _ hA g2) g3) g4) g5) hB (sC _ _ _ (sC _ _ _ hC g4) g5) (hg.trans (g1.trans (g2.trans (g3.trans (g4.trans g5))))) hs5
      rw [sc _ hjl, pc _ _ _ hef] at this
      exact this
  rcases List.mem_cons.1 hy with rfl | hy
  · refine mj _ _ hs fun v w1 hB g1 hs1 => ⟨hs1, ?_⟩
    refine fork2G i l rj (fun w2 g2 hs2 => ?_) (fun w2 g2 hs2 => ?_)
    · refine mie v _ _ hs2 fun u w3 hA g3 hs3 => ⟨hs3, ?_⟩
      have := h2 u v w3 hA (sB _ _ _ (sB _ _ _ hB g2) g3) (hg.trans (g1.trans (g2.trans g3))) hs3
      rw [sc _ hij, pc _ _ _ hde] at this
      exact this
    · refine mle v _ _ hs2 fun x w3 hC g3 hs3 => ⟨hs3, oneG i rjl fun w4 g4 hs4 => ?_⟩
      refine miel v x _ _ hs4 fun u w5 hA g5 hs5 => ⟨hs5, ?_⟩
      have := h3 u v x w5 hA (sB _ _ _ (sB _ _ _ (sB _ _ _ (sB _ _ _ hB g2) g3) g4) g5) (sC _ _ _ (sC _ _ _ hC g4) g5) (hg.trans (g1.trans (g2.trans (g3.trans (g4.trans g5))))) hs5
      rw [sc listed hij, sc _ hil, pc a _ _ hde, pc _ _ _ hdf] at this
      exact this
  · rw [List.mem_singleton.1 hy]
    refine ml _ _ hs fun x w1 hC g1 hs1 => ⟨hs1, ?_⟩
    refine fork2G i j rl (fun w2 g2 hs2 => ?_) (fun w2 g2 hs2 => ?_)
    · refine mif x _ _ hs2 fun u w3 hA g3 hs3 => ⟨hs3, oneG j rli fun w4 g4 hs4 => ?_⟩
      refine mjfd x u _ _ hs4 fun v w5 hB g5 hs5 => ⟨hs5, ?_⟩
      have := h3 u v x w5 (sA _ _ _ (sA _ _ _ hA g4) g5) hB (sC _ _ _ (sC _ _ _ (sC _ _ _ (sC _ _ _ hC g2) g3) g4) g5) (hg.trans (g1.trans (g2.trans (g3.trans (g4.trans g5))))) hs5
      rw [sc _ hjl, pc _ _ _ hef, sc _ hil, pc a _ _ hdf] at this
      exact this
    · refine mjf x _ _ hs2 fun v w3 hB g3 hs3 => ⟨hs3, oneG i rlj fun w4 g4 hs4 => ?_⟩
      refine mief x v _ _ hs4 fun u w5 hA g5 hs5 => ⟨hs5, ?_⟩
      have := h3 u v x w5 hA (sB _ _ _ (sB _ _ _ hB g4) g5) (sC _ _ _ (sC _ _ _ (sC _ _ _ (sC _ _ _ hC g2) g3) g4) g5) (hg.trans (g1.trans (g2.trans (g3.trans (g4.trans g5))))) hs5
      rw [sc listed hij, sc _ hil, sc listed hjl, pc a _ _ hde, pc _ _ _ hdf, pc a _ _ hef] at this
      exact this
/-- A call that makes memory, where only F was written since W. -/
theorem mkCallK {ops : Array Oper} {Q : Exit → Act → World → Prop} {F : Nat → Prop} {W : World} (i : Nat) (d : Tmp) (f : FuncId) (args : Array Operand) (tys : Array TypeId) (vs : Array Value) (A : Value → World → Prop) {oi : Oper} {a : Act} (hi : ops[i]? = some oi) (hd : oi.dst = some d) (ho : oi.op = .call { callee := .value (.func f), args := args, argTypes := tys }) (hw : Region.wanted oi (yielded ops a.tmps) = true) (hv : (args.toList.map a.eval).toArray = vs) (hc : ∀ vs w, (callFunc f vs).run Tryd.prog w = .ok (.enter f vs) w)
    (h : ∀ w, Kp F W w → Calls Tryd.prog f vs w fun e w' => ∃ v, e = .returned v ∧ A v w' ∧ Below w.heap.size w w') : Mk Tryd.prog ops Q (Kp F W) i d A a := by
  intro K w hs k
  refine opCallW i (some d) f args tys vs hi hd ho hw hv hc ?_
  refine (h w hs).mono ?_
  rintro e w' ⟨v, he, hA, hb⟩
  exact ⟨v, he, k v w' hA hb (hs.trans (Kp.of_below hb))⟩
/-- A literal of one slice, made since W. -/
def OneK (F : Nat → Prop) (W : World) (s : Option Addr) (n c : Nat) (l : List UInt8) (v : Value) (w : World) : Prop := ∃ g, v = .slice (some ⟨g, 0, none⟩) 1 1 ∧ W.heap.size ≤ g ∧ Blk w g [.slice s n c] 22 ∧ BA (fun j => ¬ F j) w s n c l
theorem OneK.grow {F : Nat → Prop} {W : World} {s : Option Addr} {n c : Nat} {l : List UInt8} (v : Value) (w w' : World) (h : OneK F W s n c l v w) (hg : Grows w w') : OneK F W s n c l v w' := by
  obtain ⟨g, h1, h2, h3, h4⟩ := h
  exact ⟨g, h1, h2, h3.grows hg, h4.below' hg⟩
theorem OneK.kp {F G : Nat → Prop} {W : World} {s : Option Addr} {n c : Nat} {l : List UInt8} {v : Value} {w w' : World} (h : OneK F W s n c l v w) (k : Kp G w w') (hG : ∀ j, G j → F j) (hF : ∀ j, F j → j < W.heap.size) : OneK F W s n c l v w' := by
  obtain ⟨g, h1, h2, h3, h4⟩ := h
  exact ⟨g, h1, h2, k.blk h3 fun hg => by have := hF g (hG g hg); omega, h4.kp k fun j hj hg => hj (hG j hg)⟩
theorem OneK.bss {F : Nat → Prop} {W : World} {s : Option Addr} {n c : Nat} {l : List UInt8} {v : Value} {w : World} (h : OneK F W s n c l v w) : ∃ p, v = .slice p 1 1 ∧ Bss w p 1 1 [l] := by
  obtain ⟨g, h1, h2, h3, h4⟩ := h
  refine ⟨_, h1, rfl, Nat.le_refl _, by unfold maxLen; omega, fun i hi => ?_⟩
  match i, hi with
  | 0, _ => exact ⟨g, 0, s, n, c, rfl, h3.cell 0, h4.1⟩
theorem mkOneK {ops : Array Oper} {Q : Exit → Act → World → Prop} {F : Nat → Prop} {W : World} (i : Nat) (d : Tmp) (x : Operand) (l : List UInt8) {oi : Oper} {a : Act} (hi : ops[i]? = some oi) (hd : oi.dst = some d) (ho : oi.op = .buildSlice 40 1 #[(0, x)]) (hw : Region.wanted oi (yielded ops a.tmps) = true) (s : Option Addr) (n c : Nat) (hx : a.eval x = .slice s n c) (hb : BA (fun j => ¬ F j) W s n c l) : Mk Tryd.prog ops Q (Kp F W) i d (OneK F W s n c l) a := by
  intro K w hs k
  refine opBS1w (some d) hi hd x ho hw s n c hx ?_
  exact k _ _ ⟨_, rfl, hs.size, Blk.new w #[.slice s n c] 22, (hb.kp hs fun j hj => hj).below' (below_alloc _ _)⟩ (below_alloc _ _) (hs.trans (Kp.of_below (below_alloc _ _)))
theorem KeyV.kp {U G : Nat → Prop} {n : Nat} {v : Value} {w w' : World} (h : KeyV U n v w) (k : Kp G w w') (hG : ∀ j, G j → U j) : KeyV U n v w' := by
  obtain ⟨g, h1, h2⟩ := h
  exact ⟨g, h1, h2.kp k fun j hj hg => hj (hG j hg)⟩
/-- Ideal sealers of the same count and keys. -/
structure Like (S T : SeaS) : Prop where
  i : S.ideal = true
  i' : T.ideal = true
  count : S.count = T.count
  kids : S.kids = T.kids
theorem Like.made {S T : SeaS} (h : Like S T) (k n b t t' : List UInt8) (ht : t.length = t'.length) : S.made k n b t = T.made k n b t' := by
  unfold SeaS.made
  rw [if_pos h.i, if_pos h.i', h.count, ht]
theorem Like.seal {S T : SeaS} (h : Like S T) (k n b t t' : List UInt8) : Like (S.seal k n b t) (T.seal k n b t') := by
  refine ⟨h.i, h.i', ?_, h.kids⟩
  show S.next = T.next
  unfold SeaS.next
  rw [h.i, h.i', h.count]
theorem Like.kid {S T : SeaS} (h : Like S T) (u p : List UInt8) : S.kid u p = T.kid u p := by
  unfold SeaS.kid
  rw [h.kids]
theorem Like.num {S T : SeaS} (h : Like S T) (u p : List UInt8) : S.num u p = T.num u p := by
  unfold SeaS.num
  rw [h.kid u p, h.count]
theorem Like.derive {S T : SeaS} (h : Like S T) (u p : List UInt8) : Like (S.derive u p) (T.derive u p) := by
  unfold SeaS.derive
  rw [h.kid u p]
  split
  · exact h
  · exact ⟨h.i, h.i', by dsimp only; rw [h.count], by dsimp only; rw [h.count, h.kids]⟩

end Go.Proofs.YtjpejheipkfanaaDoor

/-
  The loop of layer 12's statement SealBlind: two ideal sealers behind so many acts ('BlI'). No condition; no statement of the seat is proved here.
-/
namespace Go.Proofs.YtjpejheipkfanaaDoor
open Go.RowKit
set_option linter.unusedVariables false

/-- Two ideal sealers of like count and keys. -/
structure BlI (w wr : World) (r1 : Nat) (U1 : Nat → Prop) (S1 : SeaS) (M1 : SeaM) (r2 : Nat) (U2 : Nat → Prop) (S2 : SeaS) (M2 : SeaM) (k : Nat) : Prop where
  two : TwoS w wr r1 U1 S1 M1 r2 U2 S2 M2
  like : Like S1 S2
  n1 : S1.count + S1.book.length ≤ k
  n2 : S2.count + S2.book.length ≤ k
theorem BlI.grow {w wr wr' : World} {r1 r2 : Nat} {U1 U2 : Nat → Prop} {S1 S2 : SeaS} {M1 M2 : SeaM} {k : Nat} (h : BlI w wr r1 U1 S1 M1 r2 U2 S2 M2 k) (hb : Below wr.heap.size wr wr') : BlI w wr' r1 U1 S1 M1 r2 U2 S2 M2 k := ⟨h.two.grow hb, h.like, h.n1, h.n2⟩
theorem BlI.lt {w wr : World} {r1 r2 : Nat} {U1 U2 : Nat → Prop} {S1 S2 : SeaS} {M1 M2 : SeaM} {k : Nat} (h : BlI w wr r1 U1 S1 M1 r2 U2 S2 M2 k) : ∀ j, U1 j ∨ U2 j → j < wr.heap.size := fun j hj => hj.elim (h.two.a.se.lt j) (h.two.b.se.lt j)
theorem BlI.base {w wr : World} {r1 r2 : Nat} {U1 U2 : Nat → Prop} {S1 S2 : SeaS} {M1 M2 : SeaM} {k : Nat} (h : BlI w wr r1 U1 S1 M1 r2 U2 S2 M2 k) : ∀ j, U1 j ∨ U2 j → w.heap.size ≤ j := fun j hj => hj.elim (h.two.a.base j) (h.two.b.base j)
/-- Bytes that were handed in. -/
theorem BlI.arg {w wr : World} {r1 r2 : Nat} {U1 U2 : Nat → Prop} {S1 S2 : SeaS} {M1 M2 : SeaM} {k : Nat} (h : BlI w wr r1 U1 S1 M1 r2 U2 S2 M2 k) {p : Option Addr} {m q : Nat} {b : List UInt8} (hb : BA (fun j => j < w.heap.size) w p m q b) : BA (fun j => ¬ (U1 j ∨ U2 j)) wr p m q b :=
  (hb.below' h.two.a.bel).mono' fun j _ hj hu => by have := h.base j hu; omega

end Go.Proofs.YtjpejheipkfanaaDoor

/-
  How an argument that is a slice of slices of bytes is opened into plain lists. No condition; no statement of the seat is proved here.
-/
namespace Go.Proofs.YtjpejheipkfanaaDoor
open Go.RowKit Go.ChangeShapes Go.WideShapes Go.ChangeAt

theorem Bss.of_trod {H : Type} {enc : TypeId × Value → H} {W : World} {base : Nat} {held : Bool} {fuel : Nat} {a : Option Addr} {n c : Nat} {x : DataW H × List MemPlace}
    (h : DataW.trod enc Tryd.prog W base (fun _ => true) held fuel 40 [.slice a n c] = some x) : ∃ ls, Bss W a n c ls := by
  rcases Deep.open_int_rows Tryd.underlying40 Tryd.underlying22 Tryd.underlying5 (by kernel_rfl) (by kernel_rfl) h with ⟨hcs, _⟩ | ⟨y, len, cap, A, L, C, Z, hcs, _, hl, hm, _, hrow⟩
  · simp at hcs
    obtain ⟨rfl, rfl, rfl⟩ := hcs
    exact ⟨[], rfl, Nat.le_refl _, Nat.zero_le _, fun i hi => by omega⟩
  · simp at hcs
    obtain ⟨rfl, rfl, rfl⟩ := hcs
    have hex : ∀ r, r < n → ∃ l, Bs W (A r) (L r) (C r) l := by
      intro r hr
      obtain ⟨_, h1, h2, h3, h4, h5, h6⟩ := hrow r (by omega)
      cases hA : A r with
      | none =>
        have := h5 hA
        exact Bs.of_row (zs := []) (Or.inl ⟨rfl, by omega, this, rfl⟩)
      | some x =>
        exact Bs.of_row (zs := Z r) (Or.inr ⟨x, rfl, h1, h2, h3, fun i hi => (h6 x hA).2 i (by omega), h4⟩)
    obtain ⟨f, hf⟩ := Deep.choose_lt hex
    refine ⟨(List.range n).map f, by simp, hl, hm, fun i hi => ?_⟩
    obtain ⟨b, o, s⟩ := y
    have hs : s = none := by
      have h0 := (hrow 0 (by omega)).1
      simpa [Addr.add] using World.cell?_spot h0
    subst hs
    refine ⟨b, o, A i, L i, C i, rfl, ?_, ?_⟩
    · have := (hrow i (by omega)).1
      rw [add_none] at this
      exact this
    · have e : ((List.range n).map f).getD i [] = f i := by simp [List.getD_eq_getElem?_getD, hi]
      rw [e]
      exact hf i hi
end Go.Proofs.YtjpejheipkfanaaDoor
