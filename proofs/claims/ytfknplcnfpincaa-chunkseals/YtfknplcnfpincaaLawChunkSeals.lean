/-
  Proved: for either kind of sealer, any small number, any two rows of bytes and any size the statement ChunkSeals of layer 13 answers true and leaves its arguments as they were. Conditions beside the statement's own: none.
-/
import Derived.Test.YtfknplcnfpincaaRows
import Derived.Test.YtfknplcnfpincaaG24
import Derived.Below
import Derived.Deep.DeepCutAuto
import Derived.Deep.CutBlock
import Derived.ChangeOld
namespace Go.Proofs.Ytfknplcnfpincaa
namespace ChunkSealsLaw
open Go.ChangeShapes Go.WideShapes Go.ChangeAt Go.RowKit
open Go.ChangeMaps (open_string shut_string)
set_option linter.unusedVariables false

theorem own : ownKnob Try.prog.godebug = none := by kernel_rfl
theorem laidOut : laidOutB Try.prog = true := by kernel_rfl

set_option maxRecDepth 100000 in
set_option maxHeartbeats 4000000 in
theorem walk (a0 : Bool) (a1 : Int) (a2 : Option Addr) (len2 cap2 : Nat) (l2 : List UInt8) (a3 : Option Addr) (len3 cap3 : Nat) (l3 : List UInt8) (a4 : Int) (w : World) (w1 : (Lit.int .u8 a1).wf = true) (w2 : Bs w a2 len2 cap2 l2) (w3 : Bs w a3 len3 cap3 l3) (w4 : (Lit.int .u16 a4).wf = true) :
    Calls Try.prog 3 #[.bool a0, .int .u8 a1, .slice a2 len2 cap2, .slice a3 len3 cap3, .int .u16 a4] w fun e w' => e = .returned (.bool true) ∧ Below w.heap.size w w' := by
  have b1 := bounds_u8 w1
  have b4 := bounds_u16 w4
  obtain ⟨ke, rfl⟩ : ∃ F : Nat, a1 = F := ⟨a1.toNat, by omega⟩
  obtain ⟨sz, rfl⟩ : ∃ n : Nat, a4 = n := ⟨a4.toNat, by omega⟩
  have hke : ke ≤ 255 := by omega
  have hsz : sz ≤ 65535 := by omega
  have HW : Hid (Bs w a2 len2 cap2 l2) := w2
  have HH : Hid (Bs w a3 len3 cap3 l3) := w3
  have hm2 := w2.max
  have hm3 := w3.max
  clear w1 w2 w3 w4 b1 b4
  by_cases c1 : (60 : Int) < (len2 : Int)
  · go_enter Try.func3, Try.ntmps3
    go_wp2_with fail
    refine (lWorks13 w).mono ?_
    rintro e wz ⟨rfl, hbz⟩
    go_wp2_with fail
    go_ret
    exact ⟨rfl, hbz⟩
  by_cases c2 : (60 : Int) < (len3 : Int)
  · go_enter Try.func3, Try.ntmps3
    go_wp2_with fail
    refine (lWorks13 w).mono ?_
    rintro e wz ⟨rfl, hbz⟩
    go_wp2_with fail
    go_ret
    exact ⟨rfl, hbz⟩
  have hl2 : len2 ≤ 60 := by omega
  have hl3 : len3 ≤ 60 := by omega
  obtain ⟨n, hn⟩ : ∃ n, n = sz % 1600 := ⟨_, rfl⟩
  have hnm : (sz : Int).tmod 1600 = (n : Int) := by rw [hn]; exact tmod_nat sz 1600
  have hnl : n ≤ 1599 := by omega
  clear hn
  have HLL : Hid ((longL l3 n).length = n) := longL_length _ _
  obtain ⟨t, ht⟩ : ∃ t, t = longL l3 n := ⟨_, rfl⟩
  have CL : Hid (∀ u, Bs u a3 len3 cap3 l3 → Calls Try.prog 9 #[.slice a3 len3 cap3, .int .i64 (n : Int)] u (Gives u t)) := fun u h => by rw [ht]; exact lLong u h n (by omega) (by omega)
  rw [← ht] at HLL
  have hb37 : ∀ x : Bool, Try.prog.built 37 [(0, .bool x)] = some #[.bool x, .slice none 0 0, .slice none 0 0, .int .u64 0, .bool false, .bool false] := fun x => by kernel_rfl
  clear ht
  go_enter Try.func3, Try.ntmps3
  go_wp2_with fail
  refine (oSNew a0 w).mono ?_
  rintro e v1 ⟨s, U, M, rfl, hs1, hU1, hb1⟩
  have T1 : Hid (StaS w v1 s U (SeaS.new a0) M) := StaS.first (Below.refl _ w) hs1 hU1 hb1
  clear hs1 hU1 hb1
  go_wp2_with fail
  refine (CL.out v1 (HH.out.below T1.out.bel (Nat.le_refl _))).mono ?_
  rintro e v2 ⟨at', mt, ct, rfl, ot, hbt⟩
  have lmt := ot.toBs.len
  rw [HLL.out] at lmt
  subst lmt
  have T2 : Hid (StaS w v2 s U (SeaS.new a0) M) := T1.out.grow hbt
  have TX2 : Hid (BA (fun j => ¬ U j) v2 at' n ct t) := ot.no T1.out.se.lt
  clear T1 ot hbt CL
  go_wp2_with fail
  refine (lKey13 v2 ke hke).mono ?_
  rintro e v3 ⟨g3, rfl, _, o3, hb3⟩
  have T3 : Hid (StaS w v3 s U (SeaS.new a0) M) := T2.out.grow hb3
  have K3 : Hid (BA (fun j => ¬ U j) v3 (some ⟨g3, 0, none⟩) 32 32 (keyC ke)) := o3.no T2.out.se.lt
  have TX3 : Hid (BA (fun j => ¬ U j) v3 at' n ct t) := TX2.out.below' hb3
  clear T2 TX2 o3 hb3
  go_wp2_with fail
  refine (oSeal13 v3 T3.out.se T3.out.ok K3.out (T3.out.arg HW.out) TX3.out hl2 (by omega) (by cases a0 <;> decide)).mono ?_
  rintro e v4 ⟨la, ln, lc, rfl, hBB, hse4, kp4⟩
  have lln := hBB.len
  rw [chB_length] at lln
  subst lln
  have T4 : Hid (StaS w v4 s U (chS (SeaS.new a0) (keyC ke) l2 t (cnt n) (cnt n)) M) := T3.out.after hse4 (chS_ok (SeaS.Ok.new a0) _ _ _ _ _ (by have := cnt_le (n := n) (by omega); cases a0 <;> (show 0 + 0 + _ + _ ≤ _; omega))) kp4
  have TX4 : Hid (BA (fun j => ¬ U j) v4 at' n ct t) := TX3.out.kp kp4 fun j hj => hj
  have L4 : Hid (BB (fun j => ¬ U j) v4 la (cnt n) lc (chB (SeaS.new a0) (keyC ke) l2 t (cnt n) (cnt n))) := hBB.mono fun j _ hj hu => by have := T3.out.se.lt j hu; omega
  clear T3 K3 TX3 hBB hse4 kp4
  obtain ⟨LS, hLS⟩ : ∃ LS, LS = chB (SeaS.new a0) (keyC ke) l2 t (cnt n) (cnt n) := ⟨_, rfl⟩
  have HR : Hid (∀ (u : World) (A : Nat → Prop) (ak aw at' : Option Addr) (ck cw ct : Nat), (∀ j, u.heap.size ≤ j → A j) → BA A u ak 32 ck (keyC ke) → BA A u aw len2 cw l2 → BA A u at' n ct t → Calls Try.prog 12 #[.agg #[.bool a0, .slice none 0 0, .slice none 0 0, .int .u64 0, .bool false, .bool false], .slice ak 32 ck, .slice aw len2 cw, .slice at' n ct] u (SealsRC A (chS (SeaS.new a0) (keyC ke) l2 t (cnt n) (cnt n)) LS u)) := fun u A ak aw at' ck cw ct hA h1 h2 h3 => by
    rw [hLS]
    exact rSeal13 u (S := SeaS.new a0) (d := ⟨none, 0, 0, none, 0, 0⟩) hA ⟨Sl.nil _ _ _ _, Sl.nil _ _ _ _⟩ h1 h2 h3 hl2 (by omega) (by cases a0 <;> decide) (by cases a0 <;> decide)
  rw [← hLS] at L4
  have HCN : Hid (∀ u, Calls Try.prog 14 #[.int .i64 (n : Int)] u fun e w' => e = .returned (.int .i64 (cnt n : Int)) ∧ u = w') := fun u => oCount u n (by omega)
  have hcl := cnt_le (n := n) (by omega)
  clear hLS
  go_wp2_with (first
    | ((with_reducible refine at_bd 37 ?_); (refine bd 37 _ [(0, .bool a0)] _ rfl (hb37 a0) ?_)))
  refine (lKey13 v4 ke hke).mono ?_
  rintro e v5 ⟨g5, rfl, _, o5, hb5⟩
  have T5 := T4.out.grow hb5
  have K5 : Hid (BA (fun _ => True) v5 (some ⟨g5, 0, none⟩) 32 32 (keyC ke)) := o5.both fun _ _ => trivial
  have TX5 : Hid (BA (fun _ => True) v5 at' n ct t) := (TX4.out.below' hb5).mono' fun _ _ _ => trivial
  have W5 : Hid (BA (fun _ => True) v5 a2 len2 cap2 l2) := (T5.arg HW.out).mono' fun _ _ _ => trivial
  have L5 : Hid (Bss v5 la (cnt n) lc LS) := L4.out.bss.below hb5 (Nat.le_refl _)
  have Q5 : Hid (Below w.heap.size w v5) := T5.bel
  clear T4 T5 TX4 L4 o5 hb5
  go_wp2_with fail
  refine (HR.out v5 (fun _ => True) _ _ _ _ _ _ (fun _ _ => trivial) K5.out W5.out TX5.out).mono ?_
  rintro e v6 ⟨d6, ma, mn, mc, rfl, _, hBB6, hb6⟩
  have L6 : Hid (Bss v6 la (cnt n) lc LS) := L5.out.below hb6 (Nat.le_refl _)
  have M6 : Hid (Bss v6 ma mn mc LS) := hBB6.bss
  have Q6 : Hid (Below w.heap.size w v6) := Q5.out.trans (hb6.mono Q5.out.size)
  clear L5 Q5 K5 W5 TX5 hBB6 hb6 HR
  obtain ⟨S6, hS6⟩ : ∃ S6, S6 = chS (SeaS.new a0) (keyC ke) l2 t (cnt n) (cnt n) := ⟨_, rfl⟩
  rw [← hS6]
  rw [show rsV S6 d6 = .agg #[.bool S6.ideal, .slice d6.ba d6.bn d6.bc, .slice d6.ca d6.cn d6.cc, .int .u64 (S6.count : Int), .bool S6.reused, .bool S6.forged] from rfl]
  have b7 : Hid (Below v6.heap.size v6 (v6.alloc (.cells #[.bool S6.ideal, .slice d6.ba d6.bn d6.bc, .slice d6.ca d6.cn d6.cc, .int .u64 (S6.count : Int), .bool S6.reused, .bool S6.forged] 37))) := below_alloc v6 _
  clear hS6
  go_wp2_with fail
  generalize v6.alloc (.cells #[.bool S6.ideal, .slice d6.ba d6.bn d6.bc, .slice d6.ca d6.cn d6.cc, .int .u64 (S6.count : Int), .bool S6.reused, .bool S6.forged] 37) = v7 at *
  have CSA : Hid (Calls Try.prog 13 #[.slice la (cnt n) lc, .slice ma mn mc] v7 fun e w' => e = .returned (.bool true) ∧ ∃ k, w' = v7.drewN k) := by
    have := rSameAll v7 (L6.out.below b7.out (Nat.le_refl _)) (M6.out.below b7.out (Nat.le_refl _))
    rwa [decide_eq_true rfl] at this
  have Q7 : Hid (Below w.heap.size w v7) := Q6.out.trans (b7.out.mono Q6.out.size)
  clear L6 M6 Q6 b7
  refine CSA.out.mono ?_
  rintro e v8 ⟨rfl, kk, hv8⟩
  have Q8 : Hid (Below w.heap.size w v8) := by rw [hv8]; exact below_drN Q7.out kk
  clear hv8 CSA Q7
  go_wp2_with fail
  refine (HCN.out v8).mono ?_
  rintro e v9 ⟨rfl, rfl⟩
  go_wp2_with fail
  refine (lWorks13 v8).mono ?_
  rintro e v9 ⟨rfl, hb9⟩
  go_wp2_with fail
  go_ret
  exact ⟨rfl, Q8.out.trans (hb9.mono Q8.out.size)⟩

set_option maxRecDepth 100000 in
theorem lifted (os : Os) (started : os.Started) (H : Type) (enc : TypeId × Value → H) :
    ReturnsInHanded {} Try.checked os 3 .any (Rows.chunkSealsSpec.pre6 enc Try.prog Try.f3 Rows.chunkSealsRow.domain false) (Rows.chunkSealsSpec.post enc Try.prog Try.f3 false true false false) := by
  refine returnsInHanded_of_change (C := Try.checked) own started (by kernel_rfl) Try.func3
    (ChangeSpec.witness6 (enc := enc) (C := Try.checked) false ⟨#[], #[.bool false, .int .u8 0, .slice none 0 0, .slice none 0 0, .int .u16 0], []⟩ 8 (by kernel_rfl) (by kernel_rfl) (by kernel_rfl) (by kernel_rfl)) ?_
  intro W base args ds gs before hval0 hW hcnd _
  have hval : ∀ (j : Nat) t v, Try.f3.params[j]? = some t → args[j]? = some v → Value.okWide Try.prog W .any base t v := hval0
  have hW' := hW
  obtain ⟨p, q, hA0, hV, rfl, hfz, hnd⟩ := hW
  have hA : DataW.TrodAll enc Try.prog W 0 (fun _ => true) true Try.f3.params.toList args.toList ds p := hA0
  rw [Try.params3] at hA hval
  obtain ⟨v0, vs0, d0, ds0, p0, q0, hargs, rfl, rfl, h0, r0⟩ := trodAll_cons hA
  obtain ⟨v1, vs1, d1, ds1, p1, q1, rfl, rfl, rfl, h1, r1⟩ := trodAll_cons r0
  obtain ⟨v2, vs2, d2, ds2, p2, q2, rfl, rfl, rfl, h2, r2⟩ := trodAll_cons r1
  obtain ⟨v3, vs3, d3, ds3, p3, q3, rfl, rfl, rfl, h3, r3⟩ := trodAll_cons r2
  obtain ⟨v4, vs4, d4, ds4, p4, q4, rfl, rfl, rfl, h4, r4⟩ := trodAll_cons r3
  obtain ⟨rfl, rfl, rfl⟩ := trodAll_nil r4
  obtain rfl : args = #[v0, v1, v2, v3, v4] := by cases args; simp_all
  obtain ⟨rfl, rfl⟩ := trodVars_none hV
  obtain ⟨a0, rfl, rfl, rfl⟩ := open_bool Try.underlying4 (hval 0 4 v0 rfl rfl) h0
  obtain ⟨a1, rfl, rfl, rfl, w1⟩ := open_int Try.underlying5 (hval 1 5 v1 rfl rfl) h1
  obtain ⟨a2, len2, cap2, rfl⟩ := okWide_slice Try.underlying22 (hval 2 22 v2 rfl rfl)
  have k2 := h2
  have lt2 : ∀ x ∈ p2, x.block < W.heap.size := by obtain ⟨m, hm⟩ := k2; exact DataW.trod_lt m _ _ _ hm
  obtain ⟨l2, w2⟩ : ∃ l, Bs W a2 len2 cap2 l := by
    obtain ⟨fuel, hf⟩ := h2
    exact Bs.of_trod hf
  obtain ⟨a3, len3, cap3, rfl⟩ := okWide_slice Try.underlying22 (hval 3 22 v3 rfl rfl)
  have k3 := h3
  have lt3 : ∀ x ∈ p3, x.block < W.heap.size := by obtain ⟨m, hm⟩ := k3; exact DataW.trod_lt m _ _ _ hm
  obtain ⟨l3, w3⟩ : ∃ l, Bs W a3 len3 cap3 l := by
    obtain ⟨fuel, hf⟩ := h3
    exact Bs.of_trod hf
  obtain ⟨a4, rfl, rfl, rfl, w4⟩ := open_int Try.underlying23 (hval 4 23 v4 rfl rfl) h4
  clear hA0 hval0
  refine (walk a0 a1 a2 len2 cap2 l2 a3 len3 cap3 l3 a4 W w1 w2 w3 w4).mono fun e W' ⟨he, bel⟩ => ?_
  subst he
  exact ⟨_, rfl, _, _, _, [], _, [], hW', trodAll_mk1 (shut_bool Try.underlying4 _), (trodAll_cons_mk (shut_bool Try.underlying4 a0) (trodAll_cons_mk (shut_int Try.underlying5 w1) (trodAll_cons_mk (Below.trod laidOut (by kernel_rfl) (of_decide_eq_true (by kernel_rfl)) k2 bel lt2) (trodAll_cons_mk (Below.trod laidOut (by kernel_rfl) (of_decide_eq_true (by kernel_rfl)) k3 bel lt3) (trodAll_cons_mk (shut_int Try.underlying23 w4) trodAll_mk0))))), rfl, bel.frame _, fun h => by cases h⟩

theorem over : Rows.chunkSealsRow.holds Try.pinned (OpenSpec.ofChange Rows.chunkSealsSpec) :=
  OpenClaim.holds_of_wide 3 Try.f3 rfl rfl rfl rfl rfl rfl rfl ⟨rfl, rfl, rfl, rfl, rfl⟩ rfl rfl rfl rfl rfl (by kernel_rfl) Try.func3 (by kernel_rfl)
    (of_decide_eq_true (by kernel_rfl)) (by unfold Func.isWrapper; first | (rw [if_pos (by decide +kernel)]; kernel_rfl) | (rw [if_neg (by decide +kernel)]; exact ⟨rfl, rfl⟩))
    (fun os started H enc _ => lifted os started H enc)
end ChunkSealsLaw

/-- The statement. -/
theorem chunkSeals_holds : Rows.ChunkSealsSaid := ChunkSealsLaw.over
#print axioms chunkSeals_holds
end Go.Proofs.Ytfknplcnfpincaa
