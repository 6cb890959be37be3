/-
  1 texts in one. No statement of the seat is proved here.
-/
import Derived.Test.YtnmmopneacdgfaaI18
import Derived.BigQuiet
import Derived.Deep.DeepCutAuto
/-
  Contracts of layer 18's reference: the next pair, the next kid. No condition.
-/
namespace Go.Proofs.Ytnmmopneacdgfaa
open Go.RowKit
set_option linter.unusedVariables false
def rcR (a : Option Addr) (n q : Nat) (c : Int) : List Value := [.slice a n q, .int .i64 c]
theorem rcR_one (a : Option Addr) (n q : Nat) (c : Int) : ∀ v ∈ rcR a n q c, v.oneCell' = true := by
  intro v hv
  simp only [rcR, List.mem_cons, List.not_mem_nil, or_false] at hv
  rcases hv with rfl | rfl <;> rfl
theorem sizeRd18 : (Try.prog.info? 65).map (·.size) = some 2 := by kernel_rfl
theorem qNumber {s s1 : RdS} {k : Int} {v : Nat} (e : rN s k = s1) (f : rV s k = v) (hk : -9223372036854775808 ≤ k) (hk' : k ≤ 9223372036854775807) (u : World) {a : Option Addr} {n q : Nat} (hb : Bs u a n q s.1) : Calls Try.prog 77 #[.agg (rcR a n q s.2).toArray, .int .i64 k] u fun e w' => ∃ a' n' q', e = .returned (.tuple #[.agg (rcR a' n' q' s1.2).toArray, .int .u64 (v : Int)]) ∧ (∀ W, Bs W a n q s.1 → Bs W a' n' q' s1.1) ∧ Below u.heap.size u w' := by
  subst e f
  exact rNumber u hb s.2 k hk hk'
theorem qBytes {s s1 : RdS} {k : Int} {K : List UInt8} (e : rN s k = s1) (g : rB s k = K) (hk : -9223372036854775808 ≤ k) (hk' : k ≤ 9223372036854775807) (u : World) {a : Option Addr} {n q : Nat} (hb : Bs u a n q s.1) : Calls Try.prog 78 #[.agg (rcR a n q s.2).toArray, .int .i64 k] u fun e w' => ∃ a' n' q' p m c, e = .returned (.tuple #[.agg (rcR a' n' q' s1.2).toArray, .slice p m c]) ∧ (∀ W, Bs W a n q s.1 → Bs W a' n' q' s1.1 ∧ Bs W p m c K) ∧ Below u.heap.size u w' := by
  subst e g
  exact rBytes u hb s.2 k hk hk'
theorem resCC18 {fn : Func} {p q : Tmp} {ty ty' : TypeId} (h : fn.results = #[.cell p ty, .cell q ty']) (tmps : Array Value) (w : World) (g g' : Nat) (cs cs' : Array Value) (hp : tmps.getD p undef = .pointer (some ⟨g, 0, none⟩)) (hq : tmps.getD q undef = .pointer (some ⟨g', 0, none⟩)) (hl : (loadVar ty ⟨g, 0, none⟩).run Try.prog w = .ok (.agg cs) w) (hl' : (loadVar ty' ⟨g', 0, none⟩).run Try.prog w = .ok (.agg cs') w) : (results fn tmps).run Try.prog w = .ok (.tuple #[.agg cs, .agg cs']) w := by
  have hp' : tmps[p]?.getD undef = .pointer (some ⟨g, 0, none⟩) := by simpa using hp
  have hq' : tmps[q]?.getD undef = .pointer (some ⟨g', 0, none⟩) := by simpa using hq
  simp [results, h, hp', hq', asAddr, hl, hl']
theorem boxR18 (u : World) (g : Nat) (vs : List Value) (hv : vs.length = 2) (hg : g = u.heap.size) {W : World} (hW : W = (u.alloc (.cells #[.slice none 0 0, .int .i64 0] 65)).setCells g 0 vs) : Below u.heap.size u W ∧ Blk W g vs 65 := by
  subst hg hW
  exact ⟨below_sets (Nat.le_refl _) _ (below_alloc _ _) 0, Blk.setsW (Blk.newAt u _ _ _ rfl _ rfl) vs hv⟩
set_option maxRecDepth 100000 in
set_option maxHeartbeats 4000000 in
theorem rPairG (w : World) {a : Option Addr} {n q : Nat} {s s1 s2 s3 s4 : RdS} {v1 v2 : Nat} {K V : List UInt8} (hb : Bs w a n q s.1) (e1 : rN s 1 = s1) (f1 : rV s 1 = v1) (e2 : rN s1 1 = s2) (f2 : rV s1 1 = v2) (e3 : rN s2 (v1 : Nat) = s3) (g3 : rB s2 (v1 : Nat) = K) (e4 : rN s3 (v2 : Nat) = s4) (g4 : rB s3 (v2 : Nat) = V) (h1 : v1 ≤ 255) (h2 : v2 ≤ 255) : Calls Try.prog 41 #[.agg (rcR a n q s.2).toArray] w fun e w' => ∃ a' n' q' kp km kc vp vm vc, e = .returned (.tuple #[.agg (rcR a' n' q' s4.2).toArray, .agg #[.slice kp km kc, .slice vp vm vc]]) ∧ (∀ W, Bs W a n q s.1 → Bs W a' n' q' s4.1) ∧ (∀ W, Bs W a n q s.1 → Bs W kp km kc K) ∧ (∀ W, Bs W a n q s.1 → Bs W vp vm vc V) ∧ Below w.heap.size w w' := by
  obtain ⟨W0, hW0⟩ : ∃ W0, W0 = ((w.alloc (.cells (rcR a n q s.2).toArray 65)).alloc (.cells #[.slice none 0 0, .int .i64 0] 65)).alloc (.cells #[.slice none 0 0, .slice none 0 0] 44) := ⟨_, rfl⟩
  have X1 : Blk W0 w.heap.size (rcR a n q s.2) 65 := by rw [hW0]; exact ((Blk.newAt w _ _ w.heap.size rfl _ rfl).old _).old _
  have X2 : Blk W0 (w.heap.size + 1) [.slice none 0 0, .int .i64 0] 65 := by rw [hW0]; exact (Blk.newAt (w.alloc _) _ _ (w.heap.size + 1) (by simp) _ rfl).old _
  have X3 : Blk W0 (w.heap.size + 1 + 1) [.slice none 0 0, .slice none 0 0] 44 := by rw [hW0]; exact Blk.newAt ((w.alloc _).alloc _) _ _ (w.heap.size + 1 + 1) (by simp) _ rfl
  have k : Below w.heap.size w W0 := by rw [hW0]; exact (below2 w _ _).alloc (by simp; omega) _
  have HB : Hid (Bs w a n q s.1) := hb
  clear hb
  go_enter Try.func41, Try.ntmps41
  go_upto_region 1 with fail
  rw [← hW0]
  clear hW0
  have E1 : Hid (rN s 1 = s1) := e1
  have F1 : Hid (rV s 1 = v1) := f1
  have E2 : Hid (rN s1 1 = s2) := e2
  have F2 : Hid (rV s1 1 = v2) := f2
  have E3 : Hid (rN s2 (v1 : Nat) = s3) := e3
  have G3 : Hid (rB s2 (v1 : Nat) = K) := g3
  have E4 : Hid (rN s3 (v2 : Nat) = s4) := e4
  have G4 : Hid (rB s3 (v2 : Nat) = V) := g4
  clear e1 f1 e2 f2 e3 g3 e4 g4
  go_wp2_with (first | ((with_reducible refine at_ld 65 ?_); (refine ld 65 (.tmp 1) 2 sizeRd18 _ Try.underlying65 rfl (w.heap.size) 0 (rcR a n q s.2) rfl X1.whole rfl ?_)) | (go_at_call 77; (with_reducible refine Hid.out ?_)))
  unfold Hid
  refine (qNumber E1.out F1.out (by decide) (by decide) W0 (HB.out.below k (Nat.le_refl _))).mono ?_
  rintro e W1 ⟨a1, n1, q1, rfl, hT, kb⟩
  have T1 : Hid (∀ W, Bs W a n q s.1 → Bs W a1 n1 q1 s1.1) := fun W h => hT W (h)
  clear hT
  replace X2 := X2.below kb X2.lt
  replace X3 := X3.below kb X3.lt
  replace k := k.trans (kb.mono k.size)
  clear kb
  clear X1
  go_wp2_with ((with_reducible refine at_st 65 ?_); (with_reducible refine Hid.out ?_))
  unfold Hid
  refine st' 65 (.tmp 4) (.tmp 15) 2 sizeRd18 W1.heap.size 0 (rcR a1 n1 q1 s1.2) rfl (rcR_one _ _ _ _) ((Blk.newAt W1 _ _ _ rfl _ rfl : Blk _ W1.heap.size [.slice none 0 0, .int .i64 0] 65).there 0 2 (by decide)) rfl rfl ?_
  intro W2 hW
  obtain ⟨kb, Y4⟩ := boxR18 W1 _ (rcR a1 n1 q1 s1.2) rfl rfl hW
  clear hW
  obtain ⟨g4, hg⟩ : ∃ g, g = W1.heap.size := ⟨_, rfl⟩
  rw [← hg] at Y4 ⊢
  clear hg
  replace X2 := X2.below kb X2.lt
  replace X3 := X3.below kb X3.lt
  replace k := k.trans (kb.mono k.size)
  clear kb
  go_wp2_with (first | ((with_reducible refine at_ld 65 ?_); (refine ld 65 (.tmp 4) 2 sizeRd18 _ Try.underlying65 rfl (g4) 0 (rcR a1 n1 q1 s1.2) rfl Y4.whole rfl ?_)) | (go_at_call 77; (with_reducible refine Hid.out ?_)))
  unfold Hid
  refine (qNumber E2.out F2.out (by decide) (by decide) W2 (T1.out W2 (HB.out.below k (Nat.le_refl _)))).mono ?_
  rintro e W3 ⟨a2, n2, q2, rfl, hT, kb⟩
  have T2 : Hid (∀ W, Bs W a n q s.1 → Bs W a2 n2 q2 s2.1) := fun W h => hT W (T1.out W h)
  clear hT
  replace X2 := X2.below kb X2.lt
  replace X3 := X3.below kb X3.lt
  replace k := k.trans (kb.mono k.size)
  replace Y4 := Y4.below kb Y4.lt
  clear kb
  clear Y4
  go_wp2_with ((with_reducible refine at_st 65 ?_); (with_reducible refine Hid.out ?_))
  unfold Hid
  refine st' 65 (.tmp 6) (.tmp 20) 2 sizeRd18 W3.heap.size 0 (rcR a2 n2 q2 s2.2) rfl (rcR_one _ _ _ _) ((Blk.newAt W3 _ _ _ rfl _ rfl : Blk _ W3.heap.size [.slice none 0 0, .int .i64 0] 65).there 0 2 (by decide)) rfl rfl ?_
  intro W4 hW
  obtain ⟨kb, Y6⟩ := boxR18 W3 _ (rcR a2 n2 q2 s2.2) rfl rfl hW
  clear hW
  obtain ⟨g6, hg⟩ : ∃ g, g = W3.heap.size := ⟨_, rfl⟩
  rw [← hg] at Y6 ⊢
  clear hg
  replace X2 := X2.below kb X2.lt
  replace X3 := X3.below kb X3.lt
  replace k := k.trans (kb.mono k.size)
  clear kb
  go_wp2_with (first | ((with_reducible refine at_ld 65 ?_); (refine ld 65 (.tmp 6) 2 sizeRd18 _ Try.underlying65 rfl (g6) 0 (rcR a2 n2 q2 s2.2) rfl Y6.whole rfl ?_)) | (go_at_call 78; (with_reducible refine Hid.out ?_)))
  unfold Hid
  refine (qBytes E3.out G3.out (by omega) (by omega) W4 (T2.out W4 (HB.out.below k (Nat.le_refl _)))).mono ?_
  rintro e W5 ⟨a3, n3, q3, kp, km, kc, rfl, hT, kb⟩
  have T3 : Hid (∀ W, Bs W a n q s.1 → Bs W a3 n3 q3 s3.1) := fun W h => (hT W (T2.out W h)).1
  have kB : Hid (∀ W, Bs W a n q s.1 → Bs W kp km kc K) := fun W h => (hT W (T2.out W h)).2
  clear hT
  replace X2 := X2.below kb X2.lt
  replace X3 := X3.below kb X3.lt
  replace k := k.trans (kb.mono k.size)
  replace Y6 := Y6.below kb Y6.lt
  clear kb
  clear Y6
  go_wp2_with ((with_reducible refine at_st 65 ?_); (with_reducible refine Hid.out ?_))
  unfold Hid
  refine st' 65 (.tmp 8) (.tmp 27) 2 sizeRd18 W5.heap.size 0 (rcR a3 n3 q3 s3.2) rfl (rcR_one _ _ _ _) ((Blk.newAt W5 _ _ _ rfl _ rfl : Blk _ W5.heap.size [.slice none 0 0, .int .i64 0] 65).there 0 2 (by decide)) rfl rfl ?_
  intro W6 hW
  obtain ⟨kb, Y8⟩ := boxR18 W5 _ (rcR a3 n3 q3 s3.2) rfl rfl hW
  clear hW
  obtain ⟨g8, hg⟩ : ∃ g, g = W5.heap.size := ⟨_, rfl⟩
  rw [← hg] at Y8 ⊢
  clear hg
  replace X2 := X2.below kb X2.lt
  replace X3 := X3.below kb X3.lt
  replace k := k.trans (kb.mono k.size)
  clear kb
  go_wp2_with (first | ((with_reducible refine at_ld 65 ?_); (refine ld 65 (.tmp 8) 2 sizeRd18 _ Try.underlying65 rfl (g8) 0 (rcR a3 n3 q3 s3.2) rfl Y8.whole rfl ?_)) | (go_at_call 78; (with_reducible refine Hid.out ?_)))
  unfold Hid
  refine (qBytes E4.out G4.out (by omega) (by omega) W6 (T3.out W6 (HB.out.below k (Nat.le_refl _)))).mono ?_
  rintro e W7 ⟨a4, n4, q4, vp, vm, vc, rfl, hT, kb⟩
  have T4 : Hid (∀ W, Bs W a n q s.1 → Bs W a4 n4 q4 s4.1) := fun W h => (hT W (T3.out W h)).1
  have vB : Hid (∀ W, Bs W a n q s.1 → Bs W vp vm vc V) := fun W h => (hT W (T3.out W h)).2
  clear hT
  replace X2 := X2.below kb X2.lt
  replace X3 := X3.below kb X3.lt
  replace k := k.trans (kb.mono k.size)
  replace Y8 := Y8.below kb Y8.lt
  clear kb
  clear Y8
  go_wp2_with ((with_reducible refine at_st 65 ?_); (with_reducible refine Hid.out ?_))
  unfold Hid
  refine st' 65 (.tmp 10) (.tmp 34) 2 sizeRd18 W7.heap.size 0 (rcR a4 n4 q4 s4.2) rfl (rcR_one _ _ _ _) ((Blk.newAt W7 _ _ _ rfl _ rfl : Blk _ W7.heap.size [.slice none 0 0, .int .i64 0] 65).there 0 2 (by decide)) rfl rfl ?_
  intro W8 hW
  obtain ⟨kb, Y10⟩ := boxR18 W7 _ (rcR a4 n4 q4 s4.2) rfl rfl hW
  clear hW
  obtain ⟨g10, hg⟩ : ∃ g, g = W7.heap.size := ⟨_, rfl⟩
  rw [← hg] at Y10 ⊢
  clear hg
  replace X2 := X2.below kb X2.lt
  replace X3 := X3.below kb X3.lt
  replace k := k.trans (kb.mono k.size)
  clear kb
  go_wp2_with (first | ((with_reducible refine at_ld 65 ?_); (refine ld 65 (.tmp 10) 2 sizeRd18 _ Try.underlying65 rfl (g10) 0 (rcR a4 n4 q4 s4.2) rfl Y10.whole rfl ?_)) | ((with_reducible refine at_st 65 ?_); (with_reducible refine Hid.out ?_)))
  unfold Hid
  refine st' 65 (.tmp 2) (.tmp 36) 2 sizeRd18 (w.heap.size + 1) 0 (rcR a4 n4 q4 s4.2) rfl (rcR_one _ _ _ _) (X2.there 0 2 (by decide)) rfl rfl ?_
  intro W9 hW
  have Z2 : Blk W9 (w.heap.size + 1) (rcR a4 n4 q4 s4.2) 65 := by rw [hW]; exact X2.setsW _ rfl
  have Z3 : Blk W9 (w.heap.size + 1 + 1) [.slice none 0 0, .slice none 0 0] 44 := by rw [hW]; exact Blk.setsO (by omega) _ X3 0
  replace k : Below w.heap.size w W9 := by rw [hW]; exact below_sets (by omega) _ k 0
  clear hW X2 X3 Y10
  go_wp2_with ((with_reducible refine at_st 44 ?_); (with_reducible refine Hid.out ?_))
  unfold Hid
  refine st' 44 (.tmp 3) (.tmp 39) 2 sizePr (w.heap.size + 1 + 1) 0 [.slice kp km kc, .slice vp vm vc] rfl (by intro u hu; simp only [List.mem_cons, List.not_mem_nil, or_false] at hu; rcases hu with rfl | rfl <;> rfl) (Z3.there 0 2 (by decide)) rfl rfl ?_
  intro W10 hW
  have V2 : Blk W10 (w.heap.size + 1) (rcR a4 n4 q4 s4.2) 65 := by rw [hW]; exact Blk.setsO (by omega) _ Z2 0
  have V3 : Blk W10 (w.heap.size + 1 + 1) [.slice kp km kc, .slice vp vm vc] 44 := by rw [hW]; exact Z3.setsW _ rfl
  replace k : Below w.heap.size w W10 := by rw [hW]; exact below_sets (by omega) _ k 0
  clear hW Z2 Z3
  go_wp2_with fail
  exact bodyPost_ret (resCC18 Try.results41 _ _ (w.heap.size + 1) (w.heap.size + 1 + 1) _ _ rfl rfl (run_loadVar_row W10 (w.heap.size + 1) 65 65 _ (0, 0) _ V2 Try.underlying65 rfl sizeRd18) (run_loadVar_row W10 (w.heap.size + 1 + 1) 44 44 _ (0, 0) _ V3 Try.underlying44 rfl sizePr)) rfl ⟨a4, n4, q4, kp, km, kc, vp, vm, vc, rfl, T4.out, kB.out, vB.out, k⟩
set_option maxRecDepth 100000 in
set_option maxHeartbeats 4000000 in
theorem rKidG (w : World) {a : Option Addr} {n q : Nat} {s s1 s2 s3 s4 : RdS} {v1 v2 v3 : Nat} {ep : Int} {K : List UInt8} (hb : Bs w a n q s.1) (e1 : rN s 1 = s1) (f1 : rV s 1 = v1) (e2 : rN s1 2 = s2) (f2 : rV s1 2 = v2) (e3 : rN s2 8 = s3) (f3 : rV s2 8 = v3) (e4 : rN s3 (v1 : Nat) = s4) (g4 : rB s3 (v1 : Nat) = K) (h1 : v1 ≤ 255) (h2 : v2 ≤ 65535) (h3 : v3 < 18446744073709551616) (he : cap62 v3 = ep) : Calls Try.prog 42 #[.agg (rcR a n q s.2).toArray] w fun e w' => ∃ a' n' q' kp km kc, e = .returned (.tuple #[.agg (rcR a' n' q' s4.2).toArray, .agg #[.slice kp km kc, .int .i64 (v2 : Int), .int .i64 ep]]) ∧ (∀ W, Bs W a n q s.1 → Bs W a' n' q' s4.1) ∧ (∀ W, Bs W a n q s.1 → Bs W kp km kc K) ∧ Below w.heap.size w w' := by
  obtain ⟨W0, hW0⟩ : ∃ W0, W0 = ((w.alloc (.cells (rcR a n q s.2).toArray 65)).alloc (.cells #[.slice none 0 0, .int .i64 0] 65)).alloc (.cells #[.slice none 0 0, .int .i64 0, .int .i64 0] 46) := ⟨_, rfl⟩
  have X1 : Blk W0 w.heap.size (rcR a n q s.2) 65 := by rw [hW0]; exact ((Blk.newAt w _ _ w.heap.size rfl _ rfl).old _).old _
  have X2 : Blk W0 (w.heap.size + 1) [.slice none 0 0, .int .i64 0] 65 := by rw [hW0]; exact (Blk.newAt (w.alloc _) _ _ (w.heap.size + 1) (by simp) _ rfl).old _
  have X3 : Blk W0 (w.heap.size + 1 + 1) [.slice none 0 0, .int .i64 0, .int .i64 0] 46 := by rw [hW0]; exact Blk.newAt ((w.alloc _).alloc _) _ _ (w.heap.size + 1 + 1) (by simp) _ rfl
  have k : Below w.heap.size w W0 := by rw [hW0]; exact (below2 w _ _).alloc (by simp; omega) _
  have HB : Hid (Bs w a n q s.1) := hb
  clear hb
  go_enter Try.func42, Try.ntmps42
  go_upto_region 1 with fail
  rw [← hW0]
  clear hW0
  have E1 : Hid (rN s 1 = s1) := e1
  have F1 : Hid (rV s 1 = v1) := f1
  have E2 : Hid (rN s1 2 = s2) := e2
  have F2 : Hid (rV s1 2 = v2) := f2
  have E3 : Hid (rN s2 8 = s3) := e3
  have F3 : Hid (rV s2 8 = v3) := f3
  have E4 : Hid (rN s3 (v1 : Nat) = s4) := e4
  have G4 : Hid (rB s3 (v1 : Nat) = K) := g4
  have HE : Hid (cap62 v3 = ep) := he
  clear e1 f1 e2 f2 e3 f3 e4 g4 he
  go_wp2_with (first | ((with_reducible refine at_ld 65 ?_); (refine ld 65 (.tmp 1) 2 sizeRd18 _ Try.underlying65 rfl (w.heap.size) 0 (rcR a n q s.2) rfl X1.whole rfl ?_)) | (go_at_call 77; (with_reducible refine Hid.out ?_)))
  unfold Hid
  refine (qNumber E1.out F1.out (by decide) (by decide) W0 (HB.out.below k (Nat.le_refl _))).mono ?_
  rintro e W1 ⟨a1, n1, q1, rfl, hT, kb⟩
  have T1 : Hid (∀ W, Bs W a n q s.1 → Bs W a1 n1 q1 s1.1) := fun W h => hT W (h)
  clear hT
  replace X2 := X2.below kb X2.lt
  replace X3 := X3.below kb X3.lt
  replace k := k.trans (kb.mono k.size)
  clear kb
  clear X1
  go_wp2_with ((with_reducible refine at_st 65 ?_); (with_reducible refine Hid.out ?_))
  unfold Hid
  refine st' 65 (.tmp 4) (.tmp 15) 2 sizeRd18 W1.heap.size 0 (rcR a1 n1 q1 s1.2) rfl (rcR_one _ _ _ _) ((Blk.newAt W1 _ _ _ rfl _ rfl : Blk _ W1.heap.size [.slice none 0 0, .int .i64 0] 65).there 0 2 (by decide)) rfl rfl ?_
  intro W2 hW
  obtain ⟨kb, Y4⟩ := boxR18 W1 _ (rcR a1 n1 q1 s1.2) rfl rfl hW
  clear hW
  obtain ⟨g4, hg⟩ : ∃ g, g = W1.heap.size := ⟨_, rfl⟩
  rw [← hg] at Y4 ⊢
  clear hg
  replace X2 := X2.below kb X2.lt
  replace X3 := X3.below kb X3.lt
  replace k := k.trans (kb.mono k.size)
  clear kb
  go_wp2_with (first | ((with_reducible refine at_ld 65 ?_); (refine ld 65 (.tmp 4) 2 sizeRd18 _ Try.underlying65 rfl (g4) 0 (rcR a1 n1 q1 s1.2) rfl Y4.whole rfl ?_)) | (go_at_call 77; (with_reducible refine Hid.out ?_)))
  unfold Hid
  refine (qNumber E2.out F2.out (by decide) (by decide) W2 (T1.out W2 (HB.out.below k (Nat.le_refl _)))).mono ?_
  rintro e W3 ⟨a2, n2, q2, rfl, hT, kb⟩
  have T2 : Hid (∀ W, Bs W a n q s.1 → Bs W a2 n2 q2 s2.1) := fun W h => hT W (T1.out W h)
  clear hT
  replace X2 := X2.below kb X2.lt
  replace X3 := X3.below kb X3.lt
  replace k := k.trans (kb.mono k.size)
  replace Y4 := Y4.below kb Y4.lt
  clear kb
  clear Y4
  go_wp2_with ((with_reducible refine at_st 65 ?_); (with_reducible refine Hid.out ?_))
  unfold Hid
  refine st' 65 (.tmp 6) (.tmp 20) 2 sizeRd18 W3.heap.size 0 (rcR a2 n2 q2 s2.2) rfl (rcR_one _ _ _ _) ((Blk.newAt W3 _ _ _ rfl _ rfl : Blk _ W3.heap.size [.slice none 0 0, .int .i64 0] 65).there 0 2 (by decide)) rfl rfl ?_
  intro W4 hW
  obtain ⟨kb, Y6⟩ := boxR18 W3 _ (rcR a2 n2 q2 s2.2) rfl rfl hW
  clear hW
  obtain ⟨g6, hg⟩ : ∃ g, g = W3.heap.size := ⟨_, rfl⟩
  rw [← hg] at Y6 ⊢
  clear hg
  replace X2 := X2.below kb X2.lt
  replace X3 := X3.below kb X3.lt
  replace k := k.trans (kb.mono k.size)
  clear kb
  go_wp2_with (first | ((with_reducible refine at_ld 65 ?_); (refine ld 65 (.tmp 6) 2 sizeRd18 _ Try.underlying65 rfl (g6) 0 (rcR a2 n2 q2 s2.2) rfl Y6.whole rfl ?_)) | (go_at_call 77; (with_reducible refine Hid.out ?_)))
  unfold Hid
  refine (qNumber E3.out F3.out (by decide) (by decide) W4 (T2.out W4 (HB.out.below k (Nat.le_refl _)))).mono ?_
  rintro e W5 ⟨a3, n3, q3, rfl, hT, kb⟩
  have T3 : Hid (∀ W, Bs W a n q s.1 → Bs W a3 n3 q3 s3.1) := fun W h => hT W (T2.out W h)
  clear hT
  replace X2 := X2.below kb X2.lt
  replace X3 := X3.below kb X3.lt
  replace k := k.trans (kb.mono k.size)
  replace Y6 := Y6.below kb Y6.lt
  clear kb
  clear Y6
  go_wp2_with ((with_reducible refine at_st 65 ?_); (with_reducible refine Hid.out ?_))
  unfold Hid
  refine st' 65 (.tmp 8) (.tmp 25) 2 sizeRd18 W5.heap.size 0 (rcR a3 n3 q3 s3.2) rfl (rcR_one _ _ _ _) ((Blk.newAt W5 _ _ _ rfl _ rfl : Blk _ W5.heap.size [.slice none 0 0, .int .i64 0] 65).there 0 2 (by decide)) rfl rfl ?_
  intro W6 hW
  obtain ⟨kb, Y8⟩ := boxR18 W5 _ (rcR a3 n3 q3 s3.2) rfl rfl hW
  clear hW
  obtain ⟨g8, hg⟩ : ∃ g, g = W5.heap.size := ⟨_, rfl⟩
  rw [← hg] at Y8 ⊢
  clear hg
  replace X2 := X2.below kb X2.lt
  replace X3 := X3.below kb X3.lt
  replace k := k.trans (kb.mono k.size)
  clear kb
  by_cases hc : 4611686018427387904 < v3
  · skip
    have hc2 : (4611686018427387904 : Int) < (v3 : Int) := by omega
    have HV : Hid (ep = 4611686018427387904) := by show _ = _; rw [← HE.out]; exact if_pos hc
    clear hc HE h3
    go_wp2_with (first | ((with_reducible refine at_ld 65 ?_); (refine ld 65 (.tmp 8) 2 sizeRd18 _ Try.underlying65 rfl (g8) 0 (rcR a3 n3 q3 s3.2) rfl Y8.whole rfl ?_)) | (go_at_call 78; (with_reducible refine Hid.out ?_)))
    unfold Hid
    refine (qBytes E4.out G4.out (by omega) (by omega) W6 (T3.out W6 (HB.out.below k (Nat.le_refl _)))).mono ?_
    rintro e W7 ⟨a4, n4, q4, kp, km, kc, rfl, hT, kb⟩
    have T4 : Hid (∀ W, Bs W a n q s.1 → Bs W a4 n4 q4 s4.1) := fun W h => (hT W (T3.out W h)).1
    have kB : Hid (∀ W, Bs W a n q s.1 → Bs W kp km kc K) := fun W h => (hT W (T3.out W h)).2
    clear hT
    replace X2 := X2.below kb X2.lt
    replace X3 := X3.below kb X3.lt
    replace k := k.trans (kb.mono k.size)
    replace Y8 := Y8.below kb Y8.lt
    clear kb
    clear Y8
    go_wp2_with ((with_reducible refine at_st 65 ?_); (with_reducible refine Hid.out ?_))
    unfold Hid
    refine st' 65 (.tmp 10) (.tmp 34) 2 sizeRd18 W7.heap.size 0 (rcR a4 n4 q4 s4.2) rfl (rcR_one _ _ _ _) ((Blk.newAt W7 _ _ _ rfl _ rfl : Blk _ W7.heap.size [.slice none 0 0, .int .i64 0] 65).there 0 2 (by decide)) rfl rfl ?_
    intro W8 hW
    obtain ⟨kb, Y10⟩ := boxR18 W7 _ (rcR a4 n4 q4 s4.2) rfl rfl hW
    clear hW
    obtain ⟨g10, hg⟩ : ∃ g, g = W7.heap.size := ⟨_, rfl⟩
    rw [← hg] at Y10 ⊢
    clear hg
    replace X2 := X2.below kb X2.lt
    replace X3 := X3.below kb X3.lt
    replace k := k.trans (kb.mono k.size)
    clear kb
    go_wp2_with (first | ((with_reducible refine at_ld 65 ?_); (refine ld 65 (.tmp 10) 2 sizeRd18 _ Try.underlying65 rfl (g10) 0 (rcR a4 n4 q4 s4.2) rfl Y10.whole rfl ?_)) | ((with_reducible refine at_st 65 ?_); (with_reducible refine Hid.out ?_)))
    unfold Hid
    refine st' 65 (.tmp 2) (.tmp 36) 2 sizeRd18 (w.heap.size + 1) 0 (rcR a4 n4 q4 s4.2) rfl (rcR_one _ _ _ _) (X2.there 0 2 (by decide)) rfl rfl ?_
    intro W9 hW
    have Z2 : Blk W9 (w.heap.size + 1) (rcR a4 n4 q4 s4.2) 65 := by rw [hW]; exact X2.setsW _ rfl
    have Z3 : Blk W9 (w.heap.size + 1 + 1) [.slice none 0 0, .int .i64 0, .int .i64 0] 46 := by rw [hW]; exact Blk.setsO (by omega) _ X3 0
    replace k : Below w.heap.size w W9 := by rw [hW]; exact below_sets (by omega) _ k 0
    clear hW X2 X3 Y10
    go_wp2_with ((with_reducible refine at_st 46 ?_); (with_reducible refine Hid.out ?_))
    unfold Hid
    refine st' 46 (.tmp 3) (.tmp 42) 3 sizeKd (w.heap.size + 1 + 1) 0 [.slice kp km kc, .int .i64 (v2 : Int), .int .i64 4611686018427387904] rfl (by intro u hu; simp only [List.mem_cons, List.not_mem_nil, or_false] at hu; rcases hu with rfl | rfl | rfl <;> rfl) (Z3.there 0 3 (by decide)) rfl rfl ?_
    intro W10 hW
    have V2 : Blk W10 (w.heap.size + 1) (rcR a4 n4 q4 s4.2) 65 := by rw [hW]; exact Blk.setsO (by omega) _ Z2 0
    have V3 : Blk W10 (w.heap.size + 1 + 1) [.slice kp km kc, .int .i64 (v2 : Int), .int .i64 4611686018427387904] 46 := by rw [hW]; exact Z3.setsW _ rfl
    replace k : Below w.heap.size w W10 := by rw [hW]; exact below_sets (by omega) _ k 0
    clear hW Z2 Z3
    go_wp2_with fail
    exact bodyPost_ret (resCC18 Try.results42 _ _ (w.heap.size + 1) (w.heap.size + 1 + 1) _ _ rfl rfl (run_loadVar_row W10 (w.heap.size + 1) 65 65 _ (0, 0) _ V2 Try.underlying65 rfl sizeRd18) (run_loadVar_row W10 (w.heap.size + 1 + 1) 46 46 _ (0, 0) _ V3 Try.underlying46 rfl sizeKd)) rfl ⟨a4, n4, q4, kp, km, kc, by rw [HV.out], T4.out, kB.out, k⟩
  · skip
    have hc2 : ¬ (4611686018427387904 : Int) < (v3 : Int) := by omega
    have HV : Hid (ep = (v3 : Int)) := by show _ = _; rw [← HE.out]; exact if_neg hc
    have h4 : v3 ≤ 4611686018427387904 := by omega
    clear hc HE h3
    go_wp2_with (first | ((with_reducible refine at_ld 65 ?_); (refine ld 65 (.tmp 8) 2 sizeRd18 _ Try.underlying65 rfl (g8) 0 (rcR a3 n3 q3 s3.2) rfl Y8.whole rfl ?_)) | (go_at_call 78; (with_reducible refine Hid.out ?_)))
    unfold Hid
    refine (qBytes E4.out G4.out (by omega) (by omega) W6 (T3.out W6 (HB.out.below k (Nat.le_refl _)))).mono ?_
    rintro e W7 ⟨a4, n4, q4, kp, km, kc, rfl, hT, kb⟩
    have T4 : Hid (∀ W, Bs W a n q s.1 → Bs W a4 n4 q4 s4.1) := fun W h => (hT W (T3.out W h)).1
    have kB : Hid (∀ W, Bs W a n q s.1 → Bs W kp km kc K) := fun W h => (hT W (T3.out W h)).2
    clear hT
    replace X2 := X2.below kb X2.lt
    replace X3 := X3.below kb X3.lt
    replace k := k.trans (kb.mono k.size)
    replace Y8 := Y8.below kb Y8.lt
    clear kb
    clear Y8
    go_wp2_with ((with_reducible refine at_st 65 ?_); (with_reducible refine Hid.out ?_))
    unfold Hid
    refine st' 65 (.tmp 10) (.tmp 34) 2 sizeRd18 W7.heap.size 0 (rcR a4 n4 q4 s4.2) rfl (rcR_one _ _ _ _) ((Blk.newAt W7 _ _ _ rfl _ rfl : Blk _ W7.heap.size [.slice none 0 0, .int .i64 0] 65).there 0 2 (by decide)) rfl rfl ?_
    intro W8 hW
    obtain ⟨kb, Y10⟩ := boxR18 W7 _ (rcR a4 n4 q4 s4.2) rfl rfl hW
    clear hW
    obtain ⟨g10, hg⟩ : ∃ g, g = W7.heap.size := ⟨_, rfl⟩
    rw [← hg] at Y10 ⊢
    clear hg
    replace X2 := X2.below kb X2.lt
    replace X3 := X3.below kb X3.lt
    replace k := k.trans (kb.mono k.size)
    clear kb
    go_wp2_with (first | ((with_reducible refine at_ld 65 ?_); (refine ld 65 (.tmp 10) 2 sizeRd18 _ Try.underlying65 rfl (g10) 0 (rcR a4 n4 q4 s4.2) rfl Y10.whole rfl ?_)) | ((with_reducible refine at_st 65 ?_); (with_reducible refine Hid.out ?_)))
    unfold Hid
    refine st' 65 (.tmp 2) (.tmp 36) 2 sizeRd18 (w.heap.size + 1) 0 (rcR a4 n4 q4 s4.2) rfl (rcR_one _ _ _ _) (X2.there 0 2 (by decide)) rfl rfl ?_
    intro W9 hW
    have Z2 : Blk W9 (w.heap.size + 1) (rcR a4 n4 q4 s4.2) 65 := by rw [hW]; exact X2.setsW _ rfl
    have Z3 : Blk W9 (w.heap.size + 1 + 1) [.slice none 0 0, .int .i64 0, .int .i64 0] 46 := by rw [hW]; exact Blk.setsO (by omega) _ X3 0
    replace k : Below w.heap.size w W9 := by rw [hW]; exact below_sets (by omega) _ k 0
    clear hW X2 X3 Y10
    go_wp2_with ((with_reducible refine at_st 46 ?_); (with_reducible refine Hid.out ?_))
    unfold Hid
    refine st' 46 (.tmp 3) (.tmp 42) 3 sizeKd (w.heap.size + 1 + 1) 0 [.slice kp km kc, .int .i64 (v2 : Int), .int .i64 (v3 : Int)] rfl (by intro u hu; simp only [List.mem_cons, List.not_mem_nil, or_false] at hu; rcases hu with rfl | rfl | rfl <;> rfl) (Z3.there 0 3 (by decide)) rfl rfl ?_
    intro W10 hW
    have V2 : Blk W10 (w.heap.size + 1) (rcR a4 n4 q4 s4.2) 65 := by rw [hW]; exact Blk.setsO (by omega) _ Z2 0
    have V3 : Blk W10 (w.heap.size + 1 + 1) [.slice kp km kc, .int .i64 (v2 : Int), .int .i64 (v3 : Int)] 46 := by rw [hW]; exact Z3.setsW _ rfl
    replace k : Below w.heap.size w W10 := by rw [hW]; exact below_sets (by omega) _ k 0
    clear hW Z2 Z3
    go_wp2_with fail
    exact bodyPost_ret (resCC18 Try.results42 _ _ (w.heap.size + 1) (w.heap.size + 1 + 1) _ _ rfl rfl (run_loadVar_row W10 (w.heap.size + 1) 65 65 _ (0, 0) _ V2 Try.underlying65 rfl sizeRd18) (run_loadVar_row W10 (w.heap.size + 1 + 1) 46 46 _ (0, 0) _ V3 Try.underlying46 rfl sizeKd)) rfl ⟨a4, n4, q4, kp, km, kc, by rw [HV.out], T4.out, kB.out, k⟩

/-- A pair's, a kid's cells, where keys lie in old memory. -/
theorem bs_old {w : World} {p : Option Addr} {m c : Nat} {l : List UInt8} (h : Bs w p m c l) : BA (fun j => j < w.heap.size) w p m c l := by
  refine ⟨h, fun hm => ?_⟩
  obtain ⟨b, o, e, hlt, _⟩ := h.at hm
  exact ⟨⟨b, o, none⟩, e, hlt, hlt⟩
theorem rPairN (w : World) {a : Option Addr} {n q : Nat} {s : RdS} (hb : Bs w a n q s.1) : Calls Try.prog 41 #[.agg (rcR a n q s.2).toArray] w fun e w' => ∃ a' n' q' kp km kc vp vm vc, e = .returned (.tuple #[.agg (rcR a' n' q' (restP s).2).toArray, .agg #[.slice kp km kc, .slice vp vm vc]]) ∧ (∀ W, Bs W a n q s.1 → Bs W a' n' q' (restP s).1) ∧ (∀ W, Bs W a n q s.1 → Bs W kp km kc (pairR s).key) ∧ (∀ W, Bs W a n q s.1 → Bs W vp vm vc (pairR s).value) ∧ Below w.heap.size w w' :=
  rPairG w hb rfl rfl rfl rfl rfl rfl rfl rfl (rV1 _) (rV1 _)
theorem rKidN (w : World) {a : Option Addr} {n q : Nat} {s : RdS} (hb : Bs w a n q s.1) : Calls Try.prog 42 #[.agg (rcR a n q s.2).toArray] w fun e w' => ∃ a' n' q' kp km kc, e = .returned (.tuple #[.agg (rcR a' n' q' (restD s).2).toArray, .agg #[.slice kp km kc, .int .i64 (kidR s).page, .int .i64 (kidR s).epoch]]) ∧ (∀ W, Bs W a n q s.1 → Bs W a' n' q' (restD s).1) ∧ (∀ W, Bs W a n q s.1 → Bs W kp km kc (kidR s).key) ∧ Below w.heap.size w w' :=
  rKidG w hb rfl rfl rfl rfl rfl rfl rfl rfl (rV1 _) (rV2 _) (getN_lt _) rfl

end Go.Proofs.Ytnmmopneacdgfaa
