/-
  5 texts in one. No statement of the seat is proved here.
-/
import Derived.Test.YtjpejheipkfanaaDoorG21
import Derived.Deep.Matrix
/-
  The contracts of the reference's Pack and SameAll, and of Short. Conditions: of Pack as of the program's; of the others none.
-/
namespace Go.Proofs.YtjpejheipkfanaaDoor
open Go.RowKit

theorem parts_inj {l m : List (List UInt8)} {n k : Nat} (H : Hid (l.length = n ∧ m.length = n)) (h : ¬ k < n) (hj : ∀ j, j < k → l.getD j [] = m.getD j []) : true = decide (l = m) := by
  symm
  rw [decide_eq_true_iff]
  obtain ⟨h1, h2⟩ := H.out
  apply List.ext_getElem (by omega)
  intro i h3 h4
  have := hj i (by omega)
  simpa [List.getD_eq_getElem?_getD, h3, h4] using this
theorem parts_no {l m : List (List UInt8)} {k : Nat} (h : ¬ l.getD k [] = m.getD k []) : false = decide (l = m) := by
  symm
  rw [decide_eq_false_iff_not]
  intro e
  subst e
  exact h rfl
theorem parts_step {l m : List (List UInt8)} {k : Nat} (H : Hid (∀ j, j < k → l.getD j [] = m.getD j [])) (h : l.getD k [] = m.getD k []) (j : Nat) (hj : j < k + 1) : l.getD j [] = m.getD j [] := by
  by_cases e : j = k
  · subst e; exact h
  · exact H.out j (by omega)
set_option maxHeartbeats 400000 in
theorem rSameAll (w : World) {a b : Option Addr} {n c n' c' : Nat} {l m : List (List UInt8)} (ha : Bss w a n c l) (hb : Bss w b n' c' m) :
    Calls Tryd.prog 17 #[.slice a n c, .slice b n' c'] w fun e w' => e = .returned (.bool (decide (l = m))) ∧ ∃ k, w' = w.drewN k := by
  have h1 := ha.max
  have h2 := hb.max
  by_cases hn : n = n'
  · subst hn
    by_cases h0 : n = 0
    · subst h0
      have e : decide (l = m) = true := by
        have e1 := ha.len
        have e2 := hb.len
        simp at e1 e2
        simp [e1, e2]
      rw [e]
      clear e ha hb
      go_enter Tryd.func17, Tryd.ntmps17
      go_wp2_with fail
      refine wp_loop_rounds 1 ?_; rw [rounds_succ]; go_wp2_with fail
      go_ret
      exact ⟨rfl, 0, rfl⟩
    · obtain ⟨x, o, rfl, hx, hc⟩ := ha.at (by omega)
      obtain ⟨y, q, rfl, hy, hd⟩ := hb.at (by omega)
      have e1 := ha.len
      have e2 := hb.len
      have H : Hid (l.length = n ∧ m.length = n) := ⟨e1, e2⟩
      clear e1 e2 ha hb
      go_enter Tryd.func17, Tryd.ntmps17
      go_wp2_with fail
      go_loopw [5] (fun i wr => ∃ k : Nat, k ≤ n ∧ i = .int .i64 k ∧ (∃ d, wr = w.drewN d) ∧ ∀ j, j < k → l.getD j [] = m.getD j []) (fun i _ => n - (intOf i).toNat)
      case atStart => exact ⟨0, Nat.zero_le _, rfl, ⟨0, rfl⟩, fun j hj => by omega⟩
      case round =>
        obtain ⟨k, hk, rfl, ⟨d, hwr⟩, hj⟩ := hrel
        by_cases hlt : k < n
        · obtain ⟨p1, m1, q1, c1, hp1⟩ := hc k hlt
          obtain ⟨p2, m2, q2, c2, hp2⟩ := hd k hlt
          have H2 : Hid (∀ j, j < k → l.getD j [] = m.getD j []) := hj
          have c1 : wr.cell? ⟨x, o + k, none⟩ = some (.slice p1 m1 q1) := by rw [hwr]; exact c1
          have c2 : wr.cell? ⟨y, q + k, none⟩ = some (.slice p2 m2 q2) := by rw [hwr]; exact c2
          have hp1 : Bs wr p1 m1 q1 (l.getD k []) := by rw [hwr]; exact hp1.drewN d
          have hp2 : Bs wr p2 m2 q2 (m.getD k []) := by rw [hwr]; exact hp2.drewN d
          have HW : Hid (wr = w.drewN d) := hwr
          clear hwr
          clear hj hc hd
          by_cases hq : l.getD k [] = m.getD k []
          · have hS : Hid (∀ d', Calls Tryd.prog 13 #[.slice p1 m1 q1, .slice p2 m2 q2] (wr.drewN d') fun e w' => e = .returned (.bool true) ∧ ∃ k, w' = (wr.drewN d').drewN k) := fun d' => by
              have := rSame (wr.drewN d') (hp1.drewN d') (hp2.drewN d')
              rw [show decide (l.getD k [] = m.getD k []) = true from by rw [decide_eq_true_iff]; exact hq] at this
              exact this
            have HQ : Hid (l.getD k [] = m.getD k []) := hq
            clear hq hp1 hp2
            go_wp2_with fail
            go_quiet ((go_at_call 13; exact Calls.quiet_of (hS.out _)))
            go_wp2_with fail
            go_roundw
            case rel => exact ⟨k + 1, by omega, by go_num, ⟨_, by rw [HW.out, World.drewN_drewN]⟩, fun j hj => parts_step H2 HQ.out j hj⟩
            case measure => simp [intOf]; omega
          · have hS : Hid (∀ d', Calls Tryd.prog 13 #[.slice p1 m1 q1, .slice p2 m2 q2] (wr.drewN d') fun e w' => e = .returned (.bool false) ∧ ∃ k, w' = (wr.drewN d').drewN k) := fun d' => by
              have := rSame (wr.drewN d') (hp1.drewN d') (hp2.drewN d')
              rw [show decide (l.getD k [] = m.getD k []) = false from by rw [decide_eq_false_iff_not]; exact hq] at this
              exact this
            have HQ : Hid (¬ l.getD k [] = m.getD k []) := hq
            clear hq hp1 hp2
            go_wp2_with fail
            go_quiet ((go_at_call 13; exact Calls.quiet_of (hS.out _)))
            go_wp2_with fail
            go_ret
            exact ⟨ret_bool (parts_no HQ.out), _, by rw [HW.out, World.drewN_drewN]⟩
        · have HW : Hid (wr = w.drewN d) := hwr
          clear hwr
          go_wp2_with fail
          go_ret
          exact ⟨ret_bool (parts_inj H hlt hj), d, HW.out⟩
  · have hq' : ((n : Int) != (n' : Int)) = true := by simp; omega
    have e : decide (l = m) = false := by
      have e1 := ha.len
      have e2 := hb.len
      simp
      intro h
      rw [h] at e1
      omega
    rw [e]
    clear e ha hb
    go_enter Tryd.func17, Tryd.ntmps17
    go_wp2_with fail
    go_ret
    exact ⟨rfl, 0, rfl⟩

end Go.Proofs.YtjpejheipkfanaaDoor

/-
  What layer 1's laws ask of Same and Xor, together. No condition; no statement of the seat is proved here.
-/
namespace Go.Proofs.YtjpejheipkfanaaDoor

end Go.Proofs.YtjpejheipkfanaaDoor

/-
  Plain mathematics: two lists of parts, each with its length ahead, are the same bytes just if they are the same. Condition: fewer than 1000000 bytes in all.
-/
namespace Go.Proofs.YtjpejheipkfanaaDoor
open Go.RowKit

theorem put4_inj {n m : Nat} (hn : n ≤ 1000000) (hm : m ≤ 1000000) (h : putL n 4 = putL m 4) : n = m := by
  have e := congrArg getN h
  rw [getN_putL, getN_putL, show (256 : Nat) ^ 4 = 4294967296 from by decide] at e
  omega

theorem pack_inj (l : List (List UInt8)) : ∀ m, tot l ≤ 1000000 → tot m ≤ 1000000 → packL l = packL m → l = m := by
  induction l with
  | nil =>
    intro m _ _ h
    have e := congrArg List.length h
    rw [packL_length, packL_length] at e
    cases m with
    | nil => rfl
    | cons y q => simp [tot] at e
  | cons x r ih =>
    intro m hl hm h
    cases m with
    | nil =>
      have e := congrArg List.length h
      rw [packL_length, packL_length] at e
      simp [tot] at e
    | cons y q =>
      simp only [packL, List.append_assoc] at h
      obtain ⟨h1, h2⟩ := List.append_inj h (by rw [putL_length, putL_length])
      simp only [tot] at hl hm
      have hxy := put4_inj (by omega) (by omega) h1
      obtain ⟨h3, h4⟩ := List.append_inj h2 hxy
      rw [h3, ih q (by omega) (by omega) h4]

theorem pack_same (l m : List (List UInt8)) (hl : tot l ≤ 1000000) (hm : tot m ≤ 1000000) : decide (packL l = packL m) = decide (l = m) := by
  rw [Bool.eq_iff_iff, decide_eq_true_iff, decide_eq_true_iff]
  exact ⟨pack_inj l m hl hm, fun h => by rw [h]⟩
theorem xor_twice (l m : List UInt8) : xorL (xorL l m) m = l.take (xorL (xorL l m) m).length := by
  unfold xorL
  induction l generalizing m with
  | nil => simp
  | cons x r ih =>
    cases m with
    | nil => simp
    | cons y q =>
      simp only [List.zipWith_cons_cons, List.length_cons, List.take_succ_cons, List.cons.injEq]
      refine ⟨?_, ih q⟩
      rw [UInt8.xor_assoc, UInt8.xor_self, UInt8.xor_zero]
end Go.Proofs.YtjpejheipkfanaaDoor

/-
  Rows of regions for layer 12's statements: a key of a number, a literal of one slice, whichever comes first. No condition; no statement of the seat is proved here.
-/
namespace Go.Proofs.YtjpejheipkfanaaDoor
open Go.RowKit
set_option linter.unusedVariables false

theorem elO12.keep {A : Nat → Prop} {w w' : World} (hs : w.heap.size ≤ w'.heap.size) (hk : ∀ j, j < w.heap.size → A j → w'.heap[j]? = w.heap[j]?) : ∀ c vs, elO12 A w c vs → elO12 A w' c vs := by
  rintro c vs ⟨p, m, q, p', m', q', e, h1, h2, hf⟩
  exact ⟨p, m, q, p', m', q', e, h1.keep hs hk, h2.keep hs hk, hf⟩
theorem Acts12.grow {w w' : World} {a : Option Addr} {n c : Nat} {l : List Op12} (h : Acts12 w a n c l) (hb : Below w.heap.size w w') : ActsA (fun j => j < w.heap.size) w' a n c l :=
  Sl.keep h hb.size (elO12.keep hb.size fun j hj _ => hb.block j hj) fun j hj _ => hb.block j hj
theorem ActsA.grow {A : Nat → Prop} {w w' : World} {a : Option Addr} {n c : Nat} {l : List Op12} (h : ActsA A w a n c l) (hb : Below w.heap.size w w') : ActsA A w' a n c l :=
  Sl.keep h hb.size (elO12.keep hb.size fun j hj _ => hb.block j hj) fun j hj _ => hb.block j hj
theorem Grows.ofDrew {w u : World} (h : Grows w.drew u) : Below w.heap.size w u := (Below.refl _ w).drew.trans h
/-- What key leaves. -/
def KeyV (U : Nat → Prop) (n : Nat) (v : Value) (w : World) : Prop := ∃ g, v = .slice (some ⟨g, 0, none⟩) 32 32 ∧ BA (fun j => ¬ U j) w (some ⟨g, 0, none⟩) 32 32 (keyB n)
theorem KeyV.grow {U : Nat → Prop} {n : Nat} (v : Value) (w w' : World) (h : KeyV U n v w) (hg : Grows w w') : KeyV U n v w' := by
  obtain ⟨g, h1, h2⟩ := h
  exact ⟨g, h1, h2.below' hg⟩
/-- What a literal of one slice leaves. -/
def OneV (l : List UInt8) (v : Value) (w : World) : Prop := ∃ p, v = .slice p 1 1 ∧ Bss w p 1 1 [l]
theorem OneV.grow {l : List UInt8} (v : Value) (w w' : World) (h : OneV l v w) (hg : Grows w w') : OneV l v w' := by
  obtain ⟨p, h1, h2⟩ := h
  exact ⟨p, h1, h2.below hg (Nat.le_refl _)⟩
/-- What a nonce leaves. -/
def NonV (U : Nat → Prop) (h l : Nat) (v : Value) (w : World) : Prop := ∃ p c, v = .slice p 12 c ∧ BA (fun j => ¬ U j) w p 12 c (nonL h l)
theorem cKey {U : Nat → Prop} {W : World} (hU : ∀ j, U j → j < W.heap.size) (n : Nat) (hn : n ≤ 255) : ∀ w, Grows W w → Calls Tryd.prog 11 #[.int .u8 (n : Int)] w fun e w' => ∃ v, e = .returned v ∧ KeyV U n v w' ∧ Below w.heap.size w w' := fun w hg => (lKey12 w n hn).mono fun e w' ⟨g, he, _, ho, hb⟩ => ⟨_, he, ⟨g, rfl, ho.no fun j hj => Nat.lt_of_lt_of_le (hU j hj) (Below.size hg)⟩, hb⟩
theorem cNon {U : Nat → Prop} {W : World} (hU : ∀ j, U j → j < W.heap.size) (h l : Nat) (hh : h ≤ 18446744073709551615) (hl : l ≤ 4294967295) : ∀ w, Grows W w → Calls Tryd.prog 9 #[.int .u64 (h : Int), .int .u32 (l : Int)] w fun e w' => ∃ v, e = .returned v ∧ NonV U h l v w' ∧ Below w.heap.size w w' := fun w hg => (oSNonce w h l hh hl).mono fun e w' ⟨a, m, c, he, ho, hb⟩ => by
  have hm := ho.toBs.len
  rw [nonL_length] at hm
  subst hm
  exact ⟨_, he, ⟨a, c, rfl, ho.no fun j hj => Nat.lt_of_lt_of_le (hU j hj) (Below.size hg)⟩, hb⟩
/-- A literal of one slice, wanted. -/
theorem opBS1w {ops : Array Oper} {Q : Exit → Act → World → Prop} {i : Nat} {oi : Oper} (d : Option Tmp) (hi : ops[i]? = some oi) (hd : oi.dst = d) (x : Operand) (ho : oi.op = .buildSlice 40 1 #[(0, x)]) {K : Act → World → Prop} {a : Act} {w : World} (hw : Region.wanted oi (yielded ops a.tmps) = true) (s : Option Addr) (n c : Nat) (hx : a.eval x = .slice s n c)
    (k : K (a.put d (.slice (some ⟨w.heap.size, 0, none⟩) 1 1)) (w.alloc (.cells #[.slice s n c] 22))) : wpOp Tryd.prog ops Q i K a w := by
  subst hd
  have hK : Hid _ := k
  clear k
  unfold wpOp
  simp only [hi]
  rw [if_pos hw]
  left
  unfold Oper.wp execOp
  simp only [ho, List.map_toArray, List.map_cons, List.map_nil, hx]
  go_simp
  exact hK.out
theorem mkOne {ops : Array Oper} {Q : Exit → Act → World → Prop} {W : World} (i : Nat) (d : Tmp) (x : Operand) (l : List UInt8) {oi : Oper} {a : Act} (hi : ops[i]? = some oi) (hd : oi.dst = some d) (ho : oi.op = .buildSlice 40 1 #[(0, x)]) (hw : Region.wanted oi (yielded ops a.tmps) = true) (s : Option Addr) (n c : Nat) (hx : a.eval x = .slice s n c) (hb : ∀ w, Grows W w → Bs w s n c l) : Mk Tryd.prog ops Q (Grows W) i d (OneV l) a := by
  intro K w hs k
  refine opBS1w (some d) hi hd x ho hw s n c hx ?_
  exact k _ _ ⟨_, rfl, Bss.one1 (hb w hs)⟩ (below_alloc _ _) (Grows.trans hs (below_alloc _ _))
/-- Numbers of noise tell keys and ends apart. -/
theorem keys_apart {S : SeaS} (h : S.Ok) {a b : Nat} {l m : List (List UInt8)} {c c' : Kid} (hl : tot l ≤ 1000000) (hm : tot m ≤ 1000000) (hc : S.kid (keyB a) (packL l) = some c) (hc' : S.kid (keyB b) (packL m) = some c') : decide (noiseL c.num 32 = noiseL c'.num 32) = (decide (a % 4 = b % 4) && decide (l = m)) := by
  have hb := h.bound
  have h1 := h.kids c (List.mem_of_find?_eq_some hc)
  have h2 := h.kids c' (List.mem_of_find?_eq_some hc')
  rw [Bool.eq_iff_iff]
  simp only [decide_eq_true_eq, Bool.and_eq_true]
  rw [noise_inj (by omega) (by omega) (by omega), SeaS.num_apart h hc hc', keyB_inj]
  constructor
  · rintro ⟨x, y⟩
    exact ⟨x, pack_inj l m hl hm y⟩
  · rintro ⟨x, rfl⟩
    exact ⟨x, rfl⟩

end Go.Proofs.YtjpejheipkfanaaDoor

/-
  How an argument that is a slice of slices of bytes is opened into plain lists. No condition; no statement of the seat is proved here.
-/
namespace Go.Proofs.YtjpejheipkfanaaDoor
open Go.RowKit Go.ChangeShapes Go.WideShapes Go.ChangeAt

theorem Bss.of_trod {H : Type} {enc : TypeId × Value → H} {W : World} {base : Nat} {held : Bool} {fuel : Nat} {a : Option Addr} {n c : Nat} {x : DataW H × List MemPlace}
    (h : DataW.trod enc Tryd.prog W base (fun _ => true) held fuel 40 [.slice a n c] = some x) : ∃ ls, Bss W a n c ls := by
  rcases Deep.open_int_rows Tryd.underlying40 Tryd.underlying22 Tryd.underlying5 (by kernel_rfl) (by kernel_rfl) h with ⟨hcs, _⟩ | ⟨y, len, cap, A, L, C, Z, hcs, _, hl, hm, _, hrow⟩
  · simp at hcs
    obtain ⟨rfl, rfl, rfl⟩ := hcs
    exact ⟨[], rfl, Nat.le_refl _, Nat.zero_le _, fun i hi => by omega⟩
  · simp at hcs
    obtain ⟨rfl, rfl, rfl⟩ := hcs
    have hex : ∀ r, r < n → ∃ l, Bs W (A r) (L r) (C r) l := by
      intro r hr
      obtain ⟨_, h1, h2, h3, h4, h5, h6⟩ := hrow r (by omega)
      cases hA : A r with
      | none =>
        have := h5 hA
        exact Bs.of_row (zs := []) (Or.inl ⟨rfl, by omega, this, rfl⟩)
      | some x =>
        exact Bs.of_row (zs := Z r) (Or.inr ⟨x, rfl, h1, h2, h3, fun i hi => (h6 x hA).2 i (by omega), h4⟩)
    obtain ⟨f, hf⟩ := Deep.choose_lt hex
    refine ⟨(List.range n).map f, by simp, hl, hm, fun i hi => ?_⟩
    obtain ⟨b, o, s⟩ := y
    have hs : s = none := by
      have h0 := (hrow 0 (by omega)).1
      simpa [Addr.add] using World.cell?_spot h0
    subst hs
    refine ⟨b, o, A i, L i, C i, rfl, ?_, ?_⟩
    · have := (hrow i (by omega)).1
      rw [add_none] at this
      exact this
    · have e : ((List.range n).map f).getD i [] = f i := by simp [List.getD_eq_getElem?_getD, hi]
      rw [e]
      exact hf i hi
end Go.Proofs.YtjpejheipkfanaaDoor
