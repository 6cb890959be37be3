/-
  3 texts in one. No statement of the seat is proved here.
-/
import Derived.Test.YtfdilgnlfademaaG15

/-
  One act of layer 9's statements: a read. Conditions: acts as the statements have them.
-/
namespace Go.Proofs.Ytfdilgnlfademaa
open Go.RowKit
set_option linter.unusedVariables false

set_option maxRecDepth 100000 in
set_option maxHeartbeats 8000000 in
theorem lDo0 (w : World) {V U F : Nat → Prop} {d r : Nat} {D E : DskS} {q : Quad} (hd : Dk U F w d r D) (hV : ∀ j, V j → j < w.heap.size) (hr : RD (fun j => ¬ F j ∧ ¬ V j) w E q) {mm : Nat} (hf : D.fit mm) (hfE : E.fit mm) (hmm : mm ≤ 5000) (o : OpS) {xa : Option Addr} {xm xc : Nat} (hB : BA (fun j => ¬ F j) w xa xm xc o.x.bytes) {ka : Option Addr} {kn kc : Nat} (hK : BoA (fun j => ¬ F j) w ka kn kc o.keep) (ho : o.fits) :
    Calls Try.prog 14 #[.pointer (some ⟨r, 0, none⟩), .pointer (some ⟨d, 0, none⟩), dv E q, .agg #[.int .i64 0, .int .i64 o.at_, .int .u8 (o.c.toNat : Int), .int .i64 o.x.on, .int .i64 o.x.at_, .int .i64 o.x.kind, .slice xa xm xc, .int .i64 o.x.num, .int .i64 o.n, .bool o.done, .slice ka kn kc]] w (Did (D = E) V U F w d r ((D.read o.at_).1) ((E.read o.at_).1)) := by
  obtain ⟨B, hB'⟩ : ∃ B : Nat → Prop, B = fun j => (¬ F j ∧ ¬ V j) ∧ ¬ (w.heap.size ≤ j ∧ j ≤ w.heap.size + 3) := ⟨_, rfl⟩
  have hn1 : Hid (∀ j, B j → ¬ F j) := fun j hj => by rw [hB'] at hj; exact hj.1.1
  have hnV : Hid (∀ j, B j → ¬ V j) := fun j hj => by rw [hB'] at hj; exact hj.1.2
  have hn : Hid (∀ j, B j → ¬ (w.heap.size ≤ j ∧ j ≤ w.heap.size + 3)) := fun j hj => by rw [hB'] at hj; exact hj.2
  have hFlt : Hid (∀ j, F j → j < w.heap.size) := fun j hj => hd.lt j (hd.sub j hj)
  have hnew : Hid (∀ j, w.heap.size + 3 < j → B j) := fun j hj => by rw [hB']; exact ⟨⟨fun hF => by have := hFlt.out j hF; omega, fun hv => by have := hV j hv; omega⟩, by omega⟩
  have hrB : RD B w E q := hr.mono fun j hj ha => by rw [hB']; exact ⟨ha, by omega⟩
  clear hB'
  have HD : Hid (Dk U F w d r D) := hd
  have HG : Hid (∀ j, V j → j < w.heap.size) := hV
  have b8 : Blk ((((w.alloc (.cells #[.int .i64 (E.p.steps : Int), .int .i64 E.p.fuse, .bool E.p.done, .bool E.p.down, .int .i64 E.n, .slice q.sa q.sn q.sc, .slice q.la q.ln q.lc, .slice q.ta q.tn q.tc, .slice q.pa q.pn q.pq, .int .i64 (E.steps : Int)] 40)).alloc (.cells #[.int .i64 0, .int .i64 o.at_, .int .u8 (o.c.toNat : Int), .int .i64 o.x.on, .int .i64 o.x.at_, .int .i64 o.x.kind, .slice xa xm xc, .int .i64 o.x.num, .int .i64 o.n, .bool o.done, .slice ka kn kc] 50)).alloc (.cells #[.int .i64 0, .int .i64 0, .bool false, .bool false, .int .i64 0, .slice none 0 0, .slice none 0 0, .slice none 0 0, .slice none 0 0, .int .i64 0] 40)).alloc (.cells #[.int .i64 (E.p.steps : Int), .int .i64 E.p.fuse, .bool E.p.done, .bool E.p.down, .int .i64 E.n, .slice q.sa q.sn q.sc, .slice q.la q.ln q.lc, .slice q.ta q.tn q.tc, .slice q.pa q.pn q.pq, .int .i64 (E.steps : Int)] 40)) (w.heap.size + 1 + 1) z40 40 := ((Blk.newAt ((w.alloc _).alloc _) _ _ (w.heap.size + 1 + 1) (by simp) _ rfl).old _)
  have kb : Below w.heap.size w ((((w.alloc (.cells #[.int .i64 (E.p.steps : Int), .int .i64 E.p.fuse, .bool E.p.done, .bool E.p.down, .int .i64 E.n, .slice q.sa q.sn q.sc, .slice q.la q.ln q.lc, .slice q.ta q.tn q.tc, .slice q.pa q.pn q.pq, .int .i64 (E.steps : Int)] 40)).alloc (.cells #[.int .i64 0, .int .i64 o.at_, .int .u8 (o.c.toNat : Int), .int .i64 o.x.on, .int .i64 o.x.at_, .int .i64 o.x.kind, .slice xa xm xc, .int .i64 o.x.num, .int .i64 o.n, .bool o.done, .slice ka kn kc] 50)).alloc (.cells #[.int .i64 0, .int .i64 0, .bool false, .bool false, .int .i64 0, .slice none 0 0, .slice none 0 0, .slice none 0 0, .slice none 0 0, .int .i64 0] 40)).alloc (.cells #[.int .i64 (E.p.steps : Int), .int .i64 E.p.fuse, .bool E.p.done, .bool E.p.down, .int .i64 E.n, .slice q.sa q.sn q.sc, .slice q.la q.ln q.lc, .slice q.ta q.tn q.tc, .slice q.pa q.pn q.pq, .int .i64 (E.steps : Int)] 40)) := below4 _ _ _ _ _
  have hs0 : w.heap.size + 3 < (((((w.alloc (.cells #[.int .i64 (E.p.steps : Int), .int .i64 E.p.fuse, .bool E.p.done, .bool E.p.down, .int .i64 E.n, .slice q.sa q.sn q.sc, .slice q.la q.ln q.lc, .slice q.ta q.tn q.tc, .slice q.pa q.pn q.pq, .int .i64 (E.steps : Int)] 40)).alloc (.cells #[.int .i64 0, .int .i64 o.at_, .int .u8 (o.c.toNat : Int), .int .i64 o.x.on, .int .i64 o.x.at_, .int .i64 o.x.kind, .slice xa xm xc, .int .i64 o.x.num, .int .i64 o.n, .bool o.done, .slice ka kn kc] 50)).alloc (.cells #[.int .i64 0, .int .i64 0, .bool false, .bool false, .int .i64 0, .slice none 0 0, .slice none 0 0, .slice none 0 0, .slice none 0 0, .int .i64 0] 40)).alloc (.cells #[.int .i64 (E.p.steps : Int), .int .i64 E.p.fuse, .bool E.p.done, .bool E.p.down, .int .i64 E.n, .slice q.sa q.sn q.sc, .slice q.la q.ln q.lc, .slice q.ta q.tn q.tc, .slice q.pa q.pn q.pq, .int .i64 (E.steps : Int)] 40))).heap.size := by simp
  have hdv : dv E q = .agg #[.int .i64 (E.p.steps : Int), .int .i64 E.p.fuse, .bool E.p.done, .bool E.p.down, .int .i64 E.n, .slice q.sa q.sn q.sc, .slice q.la q.ln q.lc, .slice q.ta q.tn q.tc, .slice q.pa q.pn q.pq, .int .i64 (E.steps : Int)] := rfl
  have hat : i64 o.at_ := ho.2.1
  have bO : Blk ((((w.alloc (.cells #[.int .i64 (E.p.steps : Int), .int .i64 E.p.fuse, .bool E.p.done, .bool E.p.down, .int .i64 E.n, .slice q.sa q.sn q.sc, .slice q.la q.ln q.lc, .slice q.ta q.tn q.tc, .slice q.pa q.pn q.pq, .int .i64 (E.steps : Int)] 40)).alloc (.cells #[.int .i64 0, .int .i64 o.at_, .int .u8 (o.c.toNat : Int), .int .i64 o.x.on, .int .i64 o.x.at_, .int .i64 o.x.kind, .slice xa xm xc, .int .i64 o.x.num, .int .i64 o.n, .bool o.done, .slice ka kn kc] 50)).alloc (.cells #[.int .i64 0, .int .i64 0, .bool false, .bool false, .int .i64 0, .slice none 0 0, .slice none 0 0, .slice none 0 0, .slice none 0 0, .int .i64 0] 40)).alloc (.cells #[.int .i64 (E.p.steps : Int), .int .i64 E.p.fuse, .bool E.p.done, .bool E.p.down, .int .i64 E.n, .slice q.sa q.sn q.sc, .slice q.la q.ln q.lc, .slice q.ta q.tn q.tc, .slice q.pa q.pn q.pq, .int .i64 (E.steps : Int)] 40)) (w.heap.size + 1) #[.int .i64 0, .int .i64 o.at_, .int .u8 (o.c.toNat : Int), .int .i64 o.x.on, .int .i64 o.x.at_, .int .i64 o.x.kind, .slice xa xm xc, .int .i64 o.x.num, .int .i64 o.n, .bool o.done, .slice ka kn kc].toList 50 := ((Blk.newAt (w.alloc _) _ _ (w.heap.size + 1) (by simp) _ rfl).old _).old _
  obtain ⟨bl, hbl⟩ : ∃ bl, bl = (D.read o.at_).2.1 := ⟨_, rfl⟩
  obtain ⟨br, hbr⟩ : ∃ br, br = (E.read o.at_).2.1 := ⟨_, rfl⟩
  obtain ⟨cd, hcd⟩ : ∃ cd : Int, cd = (D.read o.at_).2.2 := ⟨_, rfl⟩
  obtain ⟨cr, hcr⟩ : ∃ cr : Int, cr = (E.read o.at_).2.2 := ⟨_, rfl⟩
  obtain ⟨D1, hD1⟩ : ∃ D1 : DskS, D1 = (D.read o.at_).1 := ⟨_, rfl⟩
  obtain ⟨E1, hE1⟩ : ∃ E1 : DskS, E1 = (E.read o.at_).1 := ⟨_, rfl⟩
  obtain ⟨sb, hsb⟩ : ∃ sb : Bool, sb = decide (br = bl) := ⟨_, rfl⟩
  obtain ⟨bb, hbb⟩ : ∃ bb : Bool, (cr == cd) = bb := ⟨_, rfl⟩
  have hbd : decide (cr = cd) = bb := by rw [← hbb]; rfl
  have HBB : Hid (D = E → sb = true ∧ bb = true) := fun e => by rw [← hbb, hcd, hcr, hsb, hbl, hbr, e]; simp
  have HSB : Hid (sb = decide (br = bl)) := hsb
  clear hsb
  have CF : Hid (∀ u, w.heap.size + 3 < u.heap.size → Below w.heap.size w u → Calls Try.prog 33 #[dv E q, .int .i64 o.at_] u fun e w' => ∃ q' p m c, e = .returned (.tuple #[dv E1 q', .slice p m c, .int .i64 cr]) ∧ RD B w' E1 q' ∧ B5 B w' p m c br ∧ Below u.heap.size u w') := fun u hu hb => by rw [hcr, hE1, hbr]; exact rRead u (hrB.below hb) (fun j hj => hnew.out j (by omega)) hfE hmm o.at_ hat
  have CP : Hid (∀ u, Below w.heap.size w u → Calls Try.prog 28 #[.pointer (some ⟨d, 0, none⟩), .int .i64 o.at_] u fun e w' => ∃ p m c, e = .returned (.tuple #[.slice p m c, .int .i64 cd]) ∧ Bs w' p m c bl ∧ Dks U F u d r D1 w') := fun u hb => by rw [hcd, hD1, hbl]; exact oDReadS u (HD.out.grows hb) hf hmm o.at_ hat
  rw [← hD1, ← hE1]
  rw [hdv]
  rw [hdv] at CF
  clear hcd hcr hD1 hE1 hbl hbr hdv hrB hr hd hV hf hfE hB hK ho
  go_enter Try.func14, Try.ntmps14
  go_wp2_with fail
  refine (CF.out _ hs0 kb).mono ?_
  rintro e v1 ⟨q1, pp, pm, pc, rfl, hr1, h5, hv1⟩
  have b8v := b8.below hv1 b8.lt
  have bOv := bO.below hv1 bO.lt
  have kv := kb.trans (Below.mono hv1 kb.size)
  have hg1 : w.heap.size + 3 < v1.heap.size := Nat.lt_of_lt_of_le hs0 hv1.size
  clear b8 bO kb CF hv1 hs0
  obtain ⟨g, hg⟩ : ∃ g, g = v1.heap.size := ⟨_, rfl⟩
  have z7 : Blk (v1.alloc (.cells #[.int .i64 0, .int .i64 0, .bool false, .bool false, .int .i64 0, .slice none 0 0, .slice none 0 0, .slice none 0 0, .slice none 0 0, .int .i64 0] 40)) g z40 40 := Blk.newAt v1 _ _ g hg.symm _ rfl
  have k7 : Below v1.heap.size v1 (v1.alloc (.cells #[.int .i64 0, .int .i64 0, .bool false, .bool false, .int .i64 0, .slice none 0 0, .slice none 0 0, .slice none 0 0, .slice none 0 0, .int .i64 0] 40)) := below_alloc _ _
  have hwg : w.heap.size + 3 < g := by omega
  unfold dv
  go_wp2_with ((with_reducible refine at_st 40 ?_); (refine st' 40 (.tmp 11) (.tmp 31) 10 size40 v1.heap.size 0 (dc E1 q1) rfl (dc_one _ _) (by rw [← hg]; exact z7.there 0 10 (by simp [z40])) rfl rfl ?_); intro v3 hv3; have b7 : Blk v3 g (dc E1 q1) 40 := (by rw [hv3, ← hg]; exact z7.setsW _ rfl); have k3 : Below v1.heap.size v1 v3 := (by rw [hv3]; exact below_sets (Nat.le_refl _) _ k7 0); have cA : v3.cell? ⟨w.heap.size + 1, 1, none⟩ = some (.int .i64 o.at_) := (bOv.below k3 bOv.lt).cell 1; clear hv3)
  rw [← hg]
  have b8x := b8v.below k3 b8v.lt
  have kx := kv.trans (k3.mono kv.size)
  have hrx := hr1.below k3
  have hs3 := b7.lt
  have h5x := h5.below k3
  clear hr1 z7 k7 b8v bOv kv hg hg1 k3 h5
  refine (CP.out v3 kx).mono ?_
  rintro e u2 ⟨p2, m2, c2, rfl, hb2, hDs⟩
  obtain ⟨U2, F2, hd2, hU2, hF2, hk2⟩ := hDs
  have b7u := hk2.blk b7 (fun hF => by have := hFlt.out g hF; omega)
  have b8u := hk2.blk b8x (fun hF => by have := hFlt.out _ hF; omega)
  have h5u := h5x.kp hk2 hn1.out
  have CSM : Hid (∀ u, Grows u2 u → Calls Try.prog 18 #[.slice pp pm pc, .slice p2 m2 c2] u fun e w' => e = .returned (.bool sb) ∧ Below u.heap.size u w') := fun u h => (rSame u (h5u.bs.below h (Nat.le_refl _)) (hb2.below h (Nat.le_refl _))).mono (by rintro e w' ⟨rfl, k, rfl⟩; exact ⟨by rw [HSB.out], below_drewN' u k⟩)
  clear CP cA b7 b8x h5x h5u hb2
  go_wp2_with fail
  refine regionE 9 (S := Grows u2) (by kernel_rfl) (Below.refl _ u2).drew ?_
  refine takeT 0 (some 41) (dv E1 q1) rfl rfl (by kernel_rfl) (fun _ _ _ h => h) (ans_row 40 (.tmp 11) _ 10 rfl (by rfl) g 0 rfl (dc E1 q1) (fun u h => (b7u.below h b7u.lt).whole) Try.underlying40 rfl rfl size40) ?_
  simp only [Act.put, List.setIfInBounds_toArray, List.set_cons_zero, List.set_cons_succ]
  refine takeT 1 (some 42) (.slice pp pm pc) rfl rfl (by kernel_rfl) (fun _ _ _ h => h) (ans_plain (by rfl) (fun w _ => rfl)) ?_
  simp only [Act.put, List.setIfInBounds_toArray, List.set_cons_zero, List.set_cons_succ]
  refine takeT 2 (some 43) (.slice p2 m2 c2) rfl rfl (by kernel_rfl) (fun _ _ _ h => h) (ans_plain (by rfl) (fun w _ => rfl)) ?_
  simp only [Act.put, List.setIfInBounds_toArray, List.set_cons_zero, List.set_cons_succ]
  refine callE 3 (some 44) 18 #[.tmp 42, .tmp 43] #[26, 26] #[.slice pp pm pc, .slice p2 m2 c2] rfl rfl rfl (by rfl) (by rfl) (by kernel_rfl) (by kernel_rfl) Try.call18 fun x1 _ hx1 => ?_
  refine (CSM.out x1 hx1).mono ?_
  rintro e x2 ⟨rfl, hx2⟩
  have hxs : Grows u2 x2 := Grows.trans hx1 hx2
  refine ⟨_, rfl, hxs, ?_⟩
  simp only [Act.put, List.setIfInBounds_toArray, List.set_cons_zero, List.set_cons_succ]
  cases sb with
  | true =>
    refine takeP 4 (some 45) (.bool true) rfl rfl (by kernel_rfl) (fun _ _ _ h => h) (by rfl) (fun w => by unfold execOp; go_simp) ?_
    simp only [Act.put, List.setIfInBounds_toArray, List.set_cons_zero, List.set_cons_succ]
    refine takeP 5 (some 46) (.int .i64 cr) rfl rfl (by kernel_rfl) (fun _ _ _ h => h) (by rfl) (fun w => by unfold execOp; go_simp) ?_
    simp only [Act.put, List.setIfInBounds_toArray, List.set_cons_zero, List.set_cons_succ]
    refine takeP 6 (some 47) (.int .i64 cd) rfl rfl (by kernel_rfl) (fun _ _ _ h => h) (by rfl) (fun w => by unfold execOp; go_simp) ?_
    simp only [Act.put, List.setIfInBounds_toArray, List.set_cons_zero, List.set_cons_succ]
    refine takeP 7 (some 48) (.bool bb) rfl rfl (by kernel_rfl) (fun _ _ _ h => h) (by rfl) (fun w => by unfold execOp; go_simp) ?_
    simp only [Act.put, List.setIfInBounds_toArray, List.set_cons_zero, List.set_cons_succ]
    refine takeP 8 (some 49) (.bool bb) rfl rfl (by kernel_rfl) (fun _ _ _ h => h) (by rfl) (fun w => by unfold execOp; go_simp) ?_
    simp only [Act.put, List.setIfInBounds_toArray, List.set_cons_zero, List.set_cons_succ]
    refine goE (by kernel_rfl) (by kernel_rfl) (by kernel_rfl) fun u3 _ hg3 => ?_
    refine opStR 9 40 (.tmp 8) (.tmp 41) 10 rfl rfl rfl rfl (w.heap.size + 1 + 1) z40 (dc E1 q1) _ (b8u.below hg3 b8u.lt) rfl rfl (dc_one _ _) size40 rfl rfl fun u4 b4 q4 => ?_
    refine takeP 10 (some 9) (.bool bb) rfl rfl (by kernel_rfl) (fun _ _ _ h => h) (by rfl) (fun w => by unfold execOp; go_simp) ?_
    simp only [Act.put, List.setIfInBounds_toArray, List.set_cons_zero, List.set_cons_succ]
    refine endE (by kernel_rfl) fun u5 hg5 => ?_
    have b5 := b4.below hg5 b4.lt
    have fin := pair_end HD.out kx hrx hn1.out hnV.out (fun j hj e => hn.out j hj (by omega)) (Grows.refl v3) hd2 hU2 hF2 hk2 hg3 q4 hg5 (by omega) (by omega)
    clear hrx b8u b7u kx hk2 hF2 hU2 hd2 q4 b4 hg3 hg5 hx1 hx2 hxs CSM
    go_wp2_with fail
    exact bodyPost_ret (v := .tuple #[dv E1 q1, .bool bb]) (res2 Try.results14 _ _ (w.heap.size + 1 + 1) (dc E1 q1).toArray rfl (run_loadVar_row u5 (w.heap.size + 1 + 1) 40 40 (dc E1 q1).toArray (0, 0) _ b5 Try.underlying40 rfl size40) _ rfl) rfl ⟨q1, bb, rfl, fun e => (HBB.out e).2, fin⟩
  | false =>
    refine takeP 4 (some 45) (.bool false) rfl rfl (by kernel_rfl) (fun _ _ _ h => h) (by rfl) (fun w => by unfold execOp; go_simp) ?_
    simp only [Act.put, List.setIfInBounds_toArray, List.set_cons_zero, List.set_cons_succ]
    refine takePN 5 (some 46) rfl rfl (by kernel_rfl) (fun _ _ _ h => h) (by rfl) ?_
    simp only [Act.put, List.setIfInBounds_toArray, List.set_cons_zero, List.set_cons_succ]
    refine takePN 6 (some 47) rfl rfl (by kernel_rfl) (fun _ _ _ h => h) (by rfl) ?_
    simp only [Act.put, List.setIfInBounds_toArray, List.set_cons_zero, List.set_cons_succ]
    refine takePN 7 (some 48) rfl rfl (by kernel_rfl) (fun _ _ _ h => h) (by rfl) ?_
    simp only [Act.put, List.setIfInBounds_toArray, List.set_cons_zero, List.set_cons_succ]
    refine takeP 8 (some 49) (.bool false) rfl rfl (by kernel_rfl) (fun _ _ _ h => h) (by rfl) (fun w => by unfold execOp; go_simp) ?_
    simp only [Act.put, List.setIfInBounds_toArray, List.set_cons_zero, List.set_cons_succ]
    refine goE (by kernel_rfl) (by kernel_rfl) (by kernel_rfl) fun u3 _ hg3 => ?_
    refine opStR 9 40 (.tmp 8) (.tmp 41) 10 rfl rfl rfl rfl (w.heap.size + 1 + 1) z40 (dc E1 q1) _ (b8u.below hg3 b8u.lt) rfl rfl (dc_one _ _) size40 rfl rfl fun u4 b4 q4 => ?_
    refine takeP 10 (some 9) (.bool false) rfl rfl (by kernel_rfl) (fun _ _ _ h => h) (by rfl) (fun w => by unfold execOp; go_simp) ?_
    simp only [Act.put, List.setIfInBounds_toArray, List.set_cons_zero, List.set_cons_succ]
    refine endE (by kernel_rfl) fun u5 hg5 => ?_
    have b5 := b4.below hg5 b4.lt
    have fin := pair_end HD.out kx hrx hn1.out hnV.out (fun j hj e => hn.out j hj (by omega)) (Grows.refl v3) hd2 hU2 hF2 hk2 hg3 q4 hg5 (by omega) (by omega)
    clear hrx b8u b7u kx hk2 hF2 hU2 hd2 q4 b4 hg3 hg5 hx1 hx2 hxs CSM
    go_wp2_with fail
    exact bodyPost_ret (v := .tuple #[dv E1 q1, .bool false]) (res2 Try.results14 _ _ (w.heap.size + 1 + 1) (dc E1 q1).toArray rfl (run_loadVar_row u5 (w.heap.size + 1 + 1) 40 40 (dc E1 q1).toArray (0, 0) _ b5 Try.underlying40 rfl size40) _ rfl) rfl ⟨q1, false, rfl, fun e => (HBB.out e).1, fin⟩

end Go.Proofs.Ytfdilgnlfademaa

/-
  One act of layer 9's statements: a write. Conditions: acts as the statements have them.
-/
namespace Go.Proofs.Ytfdilgnlfademaa
open Go.RowKit
set_option linter.unusedVariables false

set_option maxRecDepth 100000 in
set_option maxHeartbeats 8000000 in
theorem lDo1 (w : World) {V U F : Nat → Prop} {d r : Nat} {D E : DskS} {q : Quad} (hd : Dk U F w d r D) (hV : ∀ j, V j → j < w.heap.size) (hr : RD (fun j => ¬ F j ∧ ¬ V j) w E q) {mm : Nat} (hf : D.fit mm) (hfE : E.fit mm) (hmm : mm ≤ 5000) (o : OpS) {xa : Option Addr} {xm xc : Nat} (hB : BA (fun j => ¬ F j) w xa xm xc o.x.bytes) {ka : Option Addr} {kn kc : Nat} (hK : BoA (fun j => ¬ F j) w ka kn kc o.keep) (ho : o.fits) (i1 : ¬ o.n.tmod 9 = 4) :
    Calls Try.prog 14 #[.pointer (some ⟨r, 0, none⟩), .pointer (some ⟨d, 0, none⟩), dv E q, .agg #[.int .i64 1, .int .i64 o.at_, .int .u8 (o.c.toNat : Int), .int .i64 o.x.on, .int .i64 o.x.at_, .int .i64 o.x.kind, .slice xa xm xc, .int .i64 o.x.num, .int .i64 o.n, .bool o.done, .slice ka kn kc]] w (Did (D = E) V U F w d r ((D.write o.at_ (like o.c)).1) ((E.write o.at_ (like o.c)).1)) := by
  obtain ⟨B, hB'⟩ : ∃ B : Nat → Prop, B = fun j => (¬ F j ∧ ¬ V j) ∧ ¬ (w.heap.size ≤ j ∧ j ≤ w.heap.size + 3) := ⟨_, rfl⟩
  have hn1 : Hid (∀ j, B j → ¬ F j) := fun j hj => by rw [hB'] at hj; exact hj.1.1
  have hnV : Hid (∀ j, B j → ¬ V j) := fun j hj => by rw [hB'] at hj; exact hj.1.2
  have hn : Hid (∀ j, B j → ¬ (w.heap.size ≤ j ∧ j ≤ w.heap.size + 3)) := fun j hj => by rw [hB'] at hj; exact hj.2
  have hFlt : Hid (∀ j, F j → j < w.heap.size) := fun j hj => hd.lt j (hd.sub j hj)
  have hnew : Hid (∀ j, w.heap.size + 3 < j → B j) := fun j hj => by rw [hB']; exact ⟨⟨fun hF => by have := hFlt.out j hF; omega, fun hv => by have := hV j hv; omega⟩, by omega⟩
  have hrB : RD B w E q := hr.mono fun j hj ha => by rw [hB']; exact ⟨ha, by omega⟩
  clear hB'
  have HD : Hid (Dk U F w d r D) := hd
  have HG : Hid (∀ j, V j → j < w.heap.size) := hV
  have b8 : Blk ((((w.alloc (.cells #[.int .i64 (E.p.steps : Int), .int .i64 E.p.fuse, .bool E.p.done, .bool E.p.down, .int .i64 E.n, .slice q.sa q.sn q.sc, .slice q.la q.ln q.lc, .slice q.ta q.tn q.tc, .slice q.pa q.pn q.pq, .int .i64 (E.steps : Int)] 40)).alloc (.cells #[.int .i64 1, .int .i64 o.at_, .int .u8 (o.c.toNat : Int), .int .i64 o.x.on, .int .i64 o.x.at_, .int .i64 o.x.kind, .slice xa xm xc, .int .i64 o.x.num, .int .i64 o.n, .bool o.done, .slice ka kn kc] 50)).alloc (.cells #[.int .i64 0, .int .i64 0, .bool false, .bool false, .int .i64 0, .slice none 0 0, .slice none 0 0, .slice none 0 0, .slice none 0 0, .int .i64 0] 40)).alloc (.cells #[.int .i64 (E.p.steps : Int), .int .i64 E.p.fuse, .bool E.p.done, .bool E.p.down, .int .i64 E.n, .slice q.sa q.sn q.sc, .slice q.la q.ln q.lc, .slice q.ta q.tn q.tc, .slice q.pa q.pn q.pq, .int .i64 (E.steps : Int)] 40)) (w.heap.size + 1 + 1) z40 40 := ((Blk.newAt ((w.alloc _).alloc _) _ _ (w.heap.size + 1 + 1) (by simp) _ rfl).old _)
  have kb : Below w.heap.size w ((((w.alloc (.cells #[.int .i64 (E.p.steps : Int), .int .i64 E.p.fuse, .bool E.p.done, .bool E.p.down, .int .i64 E.n, .slice q.sa q.sn q.sc, .slice q.la q.ln q.lc, .slice q.ta q.tn q.tc, .slice q.pa q.pn q.pq, .int .i64 (E.steps : Int)] 40)).alloc (.cells #[.int .i64 1, .int .i64 o.at_, .int .u8 (o.c.toNat : Int), .int .i64 o.x.on, .int .i64 o.x.at_, .int .i64 o.x.kind, .slice xa xm xc, .int .i64 o.x.num, .int .i64 o.n, .bool o.done, .slice ka kn kc] 50)).alloc (.cells #[.int .i64 0, .int .i64 0, .bool false, .bool false, .int .i64 0, .slice none 0 0, .slice none 0 0, .slice none 0 0, .slice none 0 0, .int .i64 0] 40)).alloc (.cells #[.int .i64 (E.p.steps : Int), .int .i64 E.p.fuse, .bool E.p.done, .bool E.p.down, .int .i64 E.n, .slice q.sa q.sn q.sc, .slice q.la q.ln q.lc, .slice q.ta q.tn q.tc, .slice q.pa q.pn q.pq, .int .i64 (E.steps : Int)] 40)) := below4 _ _ _ _ _
  have hs0 : w.heap.size + 3 < (((((w.alloc (.cells #[.int .i64 (E.p.steps : Int), .int .i64 E.p.fuse, .bool E.p.done, .bool E.p.down, .int .i64 E.n, .slice q.sa q.sn q.sc, .slice q.la q.ln q.lc, .slice q.ta q.tn q.tc, .slice q.pa q.pn q.pq, .int .i64 (E.steps : Int)] 40)).alloc (.cells #[.int .i64 1, .int .i64 o.at_, .int .u8 (o.c.toNat : Int), .int .i64 o.x.on, .int .i64 o.x.at_, .int .i64 o.x.kind, .slice xa xm xc, .int .i64 o.x.num, .int .i64 o.n, .bool o.done, .slice ka kn kc] 50)).alloc (.cells #[.int .i64 0, .int .i64 0, .bool false, .bool false, .int .i64 0, .slice none 0 0, .slice none 0 0, .slice none 0 0, .slice none 0 0, .int .i64 0] 40)).alloc (.cells #[.int .i64 (E.p.steps : Int), .int .i64 E.p.fuse, .bool E.p.done, .bool E.p.down, .int .i64 E.n, .slice q.sa q.sn q.sc, .slice q.la q.ln q.lc, .slice q.ta q.tn q.tc, .slice q.pa q.pn q.pq, .int .i64 (E.steps : Int)] 40))).heap.size := by simp
  have hdv : dv E q = .agg #[.int .i64 (E.p.steps : Int), .int .i64 E.p.fuse, .bool E.p.done, .bool E.p.down, .int .i64 E.n, .slice q.sa q.sn q.sc, .slice q.la q.ln q.lc, .slice q.ta q.tn q.tc, .slice q.pa q.pn q.pq, .int .i64 (E.steps : Int)] := rfl
  have hat : i64 o.at_ := ho.2.1
  have bO : Blk ((((w.alloc (.cells #[.int .i64 (E.p.steps : Int), .int .i64 E.p.fuse, .bool E.p.done, .bool E.p.down, .int .i64 E.n, .slice q.sa q.sn q.sc, .slice q.la q.ln q.lc, .slice q.ta q.tn q.tc, .slice q.pa q.pn q.pq, .int .i64 (E.steps : Int)] 40)).alloc (.cells #[.int .i64 1, .int .i64 o.at_, .int .u8 (o.c.toNat : Int), .int .i64 o.x.on, .int .i64 o.x.at_, .int .i64 o.x.kind, .slice xa xm xc, .int .i64 o.x.num, .int .i64 o.n, .bool o.done, .slice ka kn kc] 50)).alloc (.cells #[.int .i64 0, .int .i64 0, .bool false, .bool false, .int .i64 0, .slice none 0 0, .slice none 0 0, .slice none 0 0, .slice none 0 0, .int .i64 0] 40)).alloc (.cells #[.int .i64 (E.p.steps : Int), .int .i64 E.p.fuse, .bool E.p.done, .bool E.p.down, .int .i64 E.n, .slice q.sa q.sn q.sc, .slice q.la q.ln q.lc, .slice q.ta q.tn q.tc, .slice q.pa q.pn q.pq, .int .i64 (E.steps : Int)] 40)) (w.heap.size + 1) #[.int .i64 1, .int .i64 o.at_, .int .u8 (o.c.toNat : Int), .int .i64 o.x.on, .int .i64 o.x.at_, .int .i64 o.x.kind, .slice xa xm xc, .int .i64 o.x.num, .int .i64 o.n, .bool o.done, .slice ka kn kc].toList 50 := ((Blk.newAt (w.alloc _) _ _ (w.heap.size + 1) (by simp) _ rfl).old _).old _
  have bR : Blk ((((w.alloc (.cells #[.int .i64 (E.p.steps : Int), .int .i64 E.p.fuse, .bool E.p.done, .bool E.p.down, .int .i64 E.n, .slice q.sa q.sn q.sc, .slice q.la q.ln q.lc, .slice q.ta q.tn q.tc, .slice q.pa q.pn q.pq, .int .i64 (E.steps : Int)] 40)).alloc (.cells #[.int .i64 1, .int .i64 o.at_, .int .u8 (o.c.toNat : Int), .int .i64 o.x.on, .int .i64 o.x.at_, .int .i64 o.x.kind, .slice xa xm xc, .int .i64 o.x.num, .int .i64 o.n, .bool o.done, .slice ka kn kc] 50)).alloc (.cells #[.int .i64 0, .int .i64 0, .bool false, .bool false, .int .i64 0, .slice none 0 0, .slice none 0 0, .slice none 0 0, .slice none 0 0, .int .i64 0] 40)).alloc (.cells #[.int .i64 (E.p.steps : Int), .int .i64 E.p.fuse, .bool E.p.done, .bool E.p.down, .int .i64 E.n, .slice q.sa q.sn q.sc, .slice q.la q.ln q.lc, .slice q.ta q.tn q.tc, .slice q.pa q.pn q.pq, .int .i64 (E.steps : Int)] 40)) w.heap.size (dc E q) 40 := (((Blk.newAt w _ _ w.heap.size rfl _ rfl).old _).old _).old _
  obtain ⟨bl, hbl⟩ : ∃ bl, bl = like o.c := ⟨_, rfl⟩
  obtain ⟨cd, hcd⟩ : ∃ cd : Int, cd = (D.write o.at_ bl).2 := ⟨_, rfl⟩
  obtain ⟨cr, hcr⟩ : ∃ cr : Int, cr = (E.write o.at_ bl).2 := ⟨_, rfl⟩
  obtain ⟨bb, hbb⟩ : ∃ bb : Bool, (cd == cr) = bb := ⟨_, rfl⟩
  have hbd : decide (cd = cr) = bb := by rw [← hbb]; rfl
  have HBB : Hid (D = E → bb = true) := fun e => by rw [← hbb, hcd, hcr, e]; simp
  obtain ⟨D1, hD1⟩ : ∃ D1 : DskS, D1 = (D.write o.at_ bl).1 := ⟨_, rfl⟩
  obtain ⟨E1, hE1⟩ : ∃ E1 : DskS, E1 = (E.write o.at_ bl).1 := ⟨_, rfl⟩
  have CF : Hid (∀ u gb, w.heap.size + 3 < u.heap.size → Below w.heap.size w u → B5 B u (some ⟨gb, 0, none⟩) 512 512 bl → Calls Try.prog 34 #[dv E q, .int .i64 o.at_, .slice (some ⟨gb, 0, none⟩) 512 512] u fun e w' => ∃ q', e = .returned (.tuple #[dv E1 q', .int .i64 cr]) ∧ RD B w' E1 q' ∧ Below u.heap.size u w') := fun u gb hu hb h5 => by rw [hcr, hE1]; exact rWrite u (hrB.below hb) (fun j hj => hnew.out j (by omega)) hfE hmm o.at_ hat h5
  have CP : Hid (∀ u gb, Below w.heap.size w u → B5 B u (some ⟨gb, 0, none⟩) 512 512 bl → Calls Try.prog 26 #[.pointer (some ⟨d, 0, none⟩), .int .i64 o.at_, .slice (some ⟨gb, 0, none⟩) 512 512] u fun e w' => e = .returned (.int .i64 cd) ∧ Dks U F u d r D1 w') := fun u gb hb h5 => by rw [hcd, hD1]; exact oDWrite u (HD.out.grows hb) hf hmm o.at_ hat ((h5.mono (fun j _ hj => hn1.out j hj)).ba)
  rw [← hbl, ← hD1, ← hE1]
  rw [hdv]
  rw [hdv] at CF
  clear hcd hcr hE1 hD1 hdv hrB hr hd hV hf hfE hB hK ho
  go_enter Try.func14, Try.ntmps14
  go_wp2_with fail
  refine (lFill _ o.c).mono ?_
  rintro e v0 ⟨gb, rfl, hgb, h50, hv0⟩
  have h5 : B5 B v0 (some ⟨gb, 0, none⟩) 512 512 bl := by rw [hbl]; exact (h50.mono (fun j _ hj => hnew.out j (Nat.lt_of_lt_of_le hs0 hj)))
  have b8a := b8.below hv0 b8.lt
  have bOa := bO.below hv0 bO.lt
  have k0 := kb.trans (Below.mono hv0 kb.size)
  have hsa : w.heap.size + 3 < v0.heap.size := Nat.lt_of_lt_of_le hs0 hv0.size
  have bRa := bR.below hv0 bR.lt
  have cA : v0.cell? ⟨w.heap.size + 1, 1, none⟩ = some (.int .i64 o.at_) := bOa.cell 1
  have cN : v0.cell? ⟨w.heap.size + 1, 8, none⟩ = some (.int .i64 o.n) := bOa.cell 8
  clear b8 bO bR kb hs0 h50 hv0 hgb hbl
  go_wp2_with ((with_reducible refine at_ld 40 ?_); go_must (refine ld 40 (.tmp 6) 10 size40 _ Try.underlying40 rfl w.heap.size 0 (dc E q) rfl bRa.whole rfl ?_))
  refine (CF.out v0 gb hsa k0 h5).mono ?_
  rintro e v1 ⟨q1, rfl, hr1, hv1⟩
  have b8v := b8a.below hv1 b8a.lt
  have bOv := bOa.below hv1 bOa.lt
  have kv := k0.trans (Below.mono hv1 k0.size)
  have hg1 : w.heap.size + 3 < v1.heap.size := Nat.lt_of_lt_of_le hsa hv1.size
  have h5v := h5.below hv1
  clear b8a bOa k0 CF hv1 hsa h5 bRa cA cN
  obtain ⟨g, hg⟩ : ∃ g, g = v1.heap.size := ⟨_, rfl⟩
  have z7 : Blk (v1.alloc (.cells #[.int .i64 0, .int .i64 0, .bool false, .bool false, .int .i64 0, .slice none 0 0, .slice none 0 0, .slice none 0 0, .slice none 0 0, .int .i64 0] 40)) g z40 40 := Blk.newAt v1 _ _ g hg.symm _ rfl
  have k7 : Below v1.heap.size v1 (v1.alloc (.cells #[.int .i64 0, .int .i64 0, .bool false, .bool false, .int .i64 0, .slice none 0 0, .slice none 0 0, .slice none 0 0, .slice none 0 0, .int .i64 0] 40)) := below_alloc _ _
  have hwg : w.heap.size + 3 < g := by omega
  unfold dv
  go_wp2_with ((with_reducible refine at_st 40 ?_); (refine st' 40 (.tmp 17) (.tmp 67) 10 size40 v1.heap.size 0 (dc E1 q1) rfl (dc_one _ _) (by rw [← hg]; exact z7.there 0 10 (by simp [z40])) rfl rfl ?_); intro v3 hv3; have b7 : Blk v3 g (dc E1 q1) 40 := (by rw [hv3, ← hg]; exact z7.setsW _ rfl); have k3 : Below v1.heap.size v1 v3 := (by rw [hv3]; exact below_sets (Nat.le_refl _) _ k7 0); clear hv3)
  rw [← hg]
  have bOx := bOv.below k3 bOv.lt
  have h5x := h5v.below k3
  have X1 : ∀ u, Kp F v3 u → u.cell? ⟨w.heap.size + 1, 1, none⟩ = some (.int .i64 o.at_) := fun u h => (h.blk bOx (fun hF => by have := hFlt.out _ hF; omega)).cell 1
  clear bOv bOx h5v
  have b8x := b8v.below k3 b8v.lt
  have kx := kv.trans (k3.mono kv.size)
  have hrx := hr1.below k3
  have hs3 := b7.lt
  clear hr1 z7 k7 b8v kv hg hg1 k3
  refine regionE 8 (S := Kp F v3) (by kernel_rfl) (Kp.of_below (Below.refl _ v3).drew) ?_
  refine takeT 0 (some 69) (dv E1 q1) rfl rfl (by kernel_rfl) (fun _ _ _ h => h) (ans_row 40 (.tmp 17) _ 10 rfl (by rfl) g 0 rfl (dc E1 q1) (fun u h => (h.blk b7 (fun hF => by have := hFlt.out g hF; omega)).whole) Try.underlying40 rfl rfl size40) ?_
  simp only [Act.put, List.setIfInBounds_toArray, List.set_cons_zero, List.set_cons_succ]
  refine takeT 1 (some 70) (.pointer (some ⟨d, 0, none⟩)) rfl rfl (by kernel_rfl) (fun _ _ _ h => h) (ans_plain (by rfl) (fun w _ => rfl)) ?_
  simp only [Act.put, List.setIfInBounds_toArray, List.set_cons_zero, List.set_cons_succ]
  refine takeT 2 (some 71) (.pointer (some ⟨w.heap.size + 1, 1, none⟩)) rfl rfl (by kernel_rfl) (fun _ _ _ h => h) (ans_plain (by rfl) (fun w _ => by unfold execOp; go_simp)) ?_
  simp only [Act.put, List.setIfInBounds_toArray, List.set_cons_zero, List.set_cons_succ]
  refine takeT 3 (some 72) (.int .i64 o.at_) rfl rfl (by kernel_rfl) (fun _ _ _ h => h) (ans_plain (by rfl) (fun w h => by have hc := X1 w h; unfold execOp; go_simp)) ?_
  simp only [Act.put, List.setIfInBounds_toArray, List.set_cons_zero, List.set_cons_succ]
  refine takeT 4 (some 73) (.slice (some ⟨gb, 0, none⟩) 512 512) rfl rfl (by kernel_rfl) (fun _ _ _ h => h) (ans_plain (by rfl) (fun w _ => rfl)) ?_
  simp only [Act.put, List.setIfInBounds_toArray, List.set_cons_zero, List.set_cons_succ]
  refine takeP 6 (some 75) (.int .i64 cr) rfl rfl (by kernel_rfl) (fun _ _ _ h => h) (by rfl) (fun w => by unfold execOp; go_simp) ?_
  simp only [Act.put, List.setIfInBounds_toArray, List.set_cons_zero, List.set_cons_succ]
  refine callE 5 (some 74) 26 #[.tmp 70, .tmp 72, .tmp 73] #[31, 3, 26] #[.pointer (some ⟨d, 0, none⟩), .int .i64 o.at_, .slice (some ⟨gb, 0, none⟩) 512 512] rfl rfl rfl (by rfl) (by rfl) (by kernel_rfl) (by kernel_rfl) Try.call26 fun u1 hg1 _ => ?_
  have hs1 : Grows v3 u1 := Grows.trans (Below.refl _ v3).drew hg1
  refine (CP.out u1 gb (kx.trans (Below.mono hs1 kx.size)) (h5x.below hs1)).mono ?_
  rintro e u2 ⟨rfl, hD1⟩
  obtain ⟨U2, F2, hd2, hU2, hF2, hk2⟩ := hD1
  have ks2 : Kp F v3 u2 := (Kp.of_below hs1).trans hk2
  refine ⟨_, rfl, ks2, ?_⟩
  simp only [Act.put, List.setIfInBounds_toArray, List.set_cons_zero, List.set_cons_succ]
  refine takeP 7 (some 76) (.bool bb) rfl rfl (by kernel_rfl) (fun _ _ _ h => h) (by rfl) (fun w => by unfold execOp; go_simp) ?_
  simp only [Act.put, List.setIfInBounds_toArray, List.set_cons_zero, List.set_cons_succ]
  refine goE (by kernel_rfl) (by kernel_rfl) (by kernel_rfl) fun u3 hg3 ks3 => ?_
  refine opStR 8 40 (.tmp 8) (.tmp 69) 10 rfl rfl rfl rfl (w.heap.size + 1 + 1) z40 (dc E1 q1) _ (ks3.blk b8x (fun hF => by have := hFlt.out _ hF; omega)) rfl rfl (dc_one _ _) size40 rfl rfl fun u4 b4 q4 => ?_
  refine takeP 9 (some 9) (.bool bb) rfl rfl (by kernel_rfl) (fun _ _ _ h => h) (by rfl) (fun w => by unfold execOp; go_simp) ?_
  simp only [Act.put, List.setIfInBounds_toArray, List.set_cons_zero, List.set_cons_succ]
  refine endE (by kernel_rfl) fun u5 hg5 => ?_
  have b5 := b4.below hg5 b4.lt
  have fin := pair_end HD.out kx hrx hn1.out hnV.out (fun j hj e => hn.out j hj (by omega)) hs1 hd2 hU2 hF2 hk2 hg3 q4 hg5 (by omega) (by omega)
  clear hrx b8x b7 kx ks2 ks3 hk2 hF2 hU2 hd2 q4 b4 hg3 hg5 hs1 hg1
  go_wp2_with fail
  exact bodyPost_ret (v := .tuple #[dv E1 q1, .bool bb]) (res2 Try.results14 _ _ (w.heap.size + 1 + 1) (dc E1 q1).toArray rfl (run_loadVar_row u5 (w.heap.size + 1 + 1) 40 40 (dc E1 q1).toArray (0, 0) _ b5 Try.underlying40 rfl size40) _ rfl) rfl ⟨q1, bb, rfl, HBB.out, fin⟩

set_option maxRecDepth 100000 in
set_option maxHeartbeats 8000000 in
theorem lDo1t (w : World) {V U F : Nat → Prop} {d r : Nat} {D E : DskS} {q : Quad} (hd : Dk U F w d r D) (hV : ∀ j, V j → j < w.heap.size) (hr : RD (fun j => ¬ F j ∧ ¬ V j) w E q) {mm : Nat} (hf : D.fit mm) (hfE : E.fit mm) (hmm : mm ≤ 5000) (o : OpS) {xa : Option Addr} {xm xc : Nat} (hB : BA (fun j => ¬ F j) w xa xm xc o.x.bytes) {ka : Option Addr} {kn kc : Nat} (hK : BoA (fun j => ¬ F j) w ka kn kc o.keep) (ho : o.fits) (i1 : o.n.tmod 9 = 4) :
    Calls Try.prog 14 #[.pointer (some ⟨r, 0, none⟩), .pointer (some ⟨d, 0, none⟩), dv E q, .agg #[.int .i64 1, .int .i64 o.at_, .int .u8 (o.c.toNat : Int), .int .i64 o.x.on, .int .i64 o.x.at_, .int .i64 o.x.kind, .slice xa xm xc, .int .i64 o.x.num, .int .i64 o.n, .bool o.done, .slice ka kn kc]] w (Did (D = E) V U F w d r ((D.write o.at_ ((like o.c).tail)).1) ((E.write o.at_ ((like o.c).tail)).1)) := by
  obtain ⟨B, hB'⟩ : ∃ B : Nat → Prop, B = fun j => (¬ F j ∧ ¬ V j) ∧ ¬ (w.heap.size ≤ j ∧ j ≤ w.heap.size + 3) := ⟨_, rfl⟩
  have hn1 : Hid (∀ j, B j → ¬ F j) := fun j hj => by rw [hB'] at hj; exact hj.1.1
  have hnV : Hid (∀ j, B j → ¬ V j) := fun j hj => by rw [hB'] at hj; exact hj.1.2
  have hn : Hid (∀ j, B j → ¬ (w.heap.size ≤ j ∧ j ≤ w.heap.size + 3)) := fun j hj => by rw [hB'] at hj; exact hj.2
  have hFlt : Hid (∀ j, F j → j < w.heap.size) := fun j hj => hd.lt j (hd.sub j hj)
  have hnew : Hid (∀ j, w.heap.size + 3 < j → B j) := fun j hj => by rw [hB']; exact ⟨⟨fun hF => by have := hFlt.out j hF; omega, fun hv => by have := hV j hv; omega⟩, by omega⟩
  have hrB : RD B w E q := hr.mono fun j hj ha => by rw [hB']; exact ⟨ha, by omega⟩
  clear hB'
  have HD : Hid (Dk U F w d r D) := hd
  have HG : Hid (∀ j, V j → j < w.heap.size) := hV
  have b8 : Blk ((((w.alloc (.cells #[.int .i64 (E.p.steps : Int), .int .i64 E.p.fuse, .bool E.p.done, .bool E.p.down, .int .i64 E.n, .slice q.sa q.sn q.sc, .slice q.la q.ln q.lc, .slice q.ta q.tn q.tc, .slice q.pa q.pn q.pq, .int .i64 (E.steps : Int)] 40)).alloc (.cells #[.int .i64 1, .int .i64 o.at_, .int .u8 (o.c.toNat : Int), .int .i64 o.x.on, .int .i64 o.x.at_, .int .i64 o.x.kind, .slice xa xm xc, .int .i64 o.x.num, .int .i64 o.n, .bool o.done, .slice ka kn kc] 50)).alloc (.cells #[.int .i64 0, .int .i64 0, .bool false, .bool false, .int .i64 0, .slice none 0 0, .slice none 0 0, .slice none 0 0, .slice none 0 0, .int .i64 0] 40)).alloc (.cells #[.int .i64 (E.p.steps : Int), .int .i64 E.p.fuse, .bool E.p.done, .bool E.p.down, .int .i64 E.n, .slice q.sa q.sn q.sc, .slice q.la q.ln q.lc, .slice q.ta q.tn q.tc, .slice q.pa q.pn q.pq, .int .i64 (E.steps : Int)] 40)) (w.heap.size + 1 + 1) z40 40 := ((Blk.newAt ((w.alloc _).alloc _) _ _ (w.heap.size + 1 + 1) (by simp) _ rfl).old _)
  have kb : Below w.heap.size w ((((w.alloc (.cells #[.int .i64 (E.p.steps : Int), .int .i64 E.p.fuse, .bool E.p.done, .bool E.p.down, .int .i64 E.n, .slice q.sa q.sn q.sc, .slice q.la q.ln q.lc, .slice q.ta q.tn q.tc, .slice q.pa q.pn q.pq, .int .i64 (E.steps : Int)] 40)).alloc (.cells #[.int .i64 1, .int .i64 o.at_, .int .u8 (o.c.toNat : Int), .int .i64 o.x.on, .int .i64 o.x.at_, .int .i64 o.x.kind, .slice xa xm xc, .int .i64 o.x.num, .int .i64 o.n, .bool o.done, .slice ka kn kc] 50)).alloc (.cells #[.int .i64 0, .int .i64 0, .bool false, .bool false, .int .i64 0, .slice none 0 0, .slice none 0 0, .slice none 0 0, .slice none 0 0, .int .i64 0] 40)).alloc (.cells #[.int .i64 (E.p.steps : Int), .int .i64 E.p.fuse, .bool E.p.done, .bool E.p.down, .int .i64 E.n, .slice q.sa q.sn q.sc, .slice q.la q.ln q.lc, .slice q.ta q.tn q.tc, .slice q.pa q.pn q.pq, .int .i64 (E.steps : Int)] 40)) := below4 _ _ _ _ _
  have hs0 : w.heap.size + 3 < (((((w.alloc (.cells #[.int .i64 (E.p.steps : Int), .int .i64 E.p.fuse, .bool E.p.done, .bool E.p.down, .int .i64 E.n, .slice q.sa q.sn q.sc, .slice q.la q.ln q.lc, .slice q.ta q.tn q.tc, .slice q.pa q.pn q.pq, .int .i64 (E.steps : Int)] 40)).alloc (.cells #[.int .i64 1, .int .i64 o.at_, .int .u8 (o.c.toNat : Int), .int .i64 o.x.on, .int .i64 o.x.at_, .int .i64 o.x.kind, .slice xa xm xc, .int .i64 o.x.num, .int .i64 o.n, .bool o.done, .slice ka kn kc] 50)).alloc (.cells #[.int .i64 0, .int .i64 0, .bool false, .bool false, .int .i64 0, .slice none 0 0, .slice none 0 0, .slice none 0 0, .slice none 0 0, .int .i64 0] 40)).alloc (.cells #[.int .i64 (E.p.steps : Int), .int .i64 E.p.fuse, .bool E.p.done, .bool E.p.down, .int .i64 E.n, .slice q.sa q.sn q.sc, .slice q.la q.ln q.lc, .slice q.ta q.tn q.tc, .slice q.pa q.pn q.pq, .int .i64 (E.steps : Int)] 40))).heap.size := by simp
  have hdv : dv E q = .agg #[.int .i64 (E.p.steps : Int), .int .i64 E.p.fuse, .bool E.p.done, .bool E.p.down, .int .i64 E.n, .slice q.sa q.sn q.sc, .slice q.la q.ln q.lc, .slice q.ta q.tn q.tc, .slice q.pa q.pn q.pq, .int .i64 (E.steps : Int)] := rfl
  have hat : i64 o.at_ := ho.2.1
  have bO : Blk ((((w.alloc (.cells #[.int .i64 (E.p.steps : Int), .int .i64 E.p.fuse, .bool E.p.done, .bool E.p.down, .int .i64 E.n, .slice q.sa q.sn q.sc, .slice q.la q.ln q.lc, .slice q.ta q.tn q.tc, .slice q.pa q.pn q.pq, .int .i64 (E.steps : Int)] 40)).alloc (.cells #[.int .i64 1, .int .i64 o.at_, .int .u8 (o.c.toNat : Int), .int .i64 o.x.on, .int .i64 o.x.at_, .int .i64 o.x.kind, .slice xa xm xc, .int .i64 o.x.num, .int .i64 o.n, .bool o.done, .slice ka kn kc] 50)).alloc (.cells #[.int .i64 0, .int .i64 0, .bool false, .bool false, .int .i64 0, .slice none 0 0, .slice none 0 0, .slice none 0 0, .slice none 0 0, .int .i64 0] 40)).alloc (.cells #[.int .i64 (E.p.steps : Int), .int .i64 E.p.fuse, .bool E.p.done, .bool E.p.down, .int .i64 E.n, .slice q.sa q.sn q.sc, .slice q.la q.ln q.lc, .slice q.ta q.tn q.tc, .slice q.pa q.pn q.pq, .int .i64 (E.steps : Int)] 40)) (w.heap.size + 1) #[.int .i64 1, .int .i64 o.at_, .int .u8 (o.c.toNat : Int), .int .i64 o.x.on, .int .i64 o.x.at_, .int .i64 o.x.kind, .slice xa xm xc, .int .i64 o.x.num, .int .i64 o.n, .bool o.done, .slice ka kn kc].toList 50 := ((Blk.newAt (w.alloc _) _ _ (w.heap.size + 1) (by simp) _ rfl).old _).old _
  have bR : Blk ((((w.alloc (.cells #[.int .i64 (E.p.steps : Int), .int .i64 E.p.fuse, .bool E.p.done, .bool E.p.down, .int .i64 E.n, .slice q.sa q.sn q.sc, .slice q.la q.ln q.lc, .slice q.ta q.tn q.tc, .slice q.pa q.pn q.pq, .int .i64 (E.steps : Int)] 40)).alloc (.cells #[.int .i64 1, .int .i64 o.at_, .int .u8 (o.c.toNat : Int), .int .i64 o.x.on, .int .i64 o.x.at_, .int .i64 o.x.kind, .slice xa xm xc, .int .i64 o.x.num, .int .i64 o.n, .bool o.done, .slice ka kn kc] 50)).alloc (.cells #[.int .i64 0, .int .i64 0, .bool false, .bool false, .int .i64 0, .slice none 0 0, .slice none 0 0, .slice none 0 0, .slice none 0 0, .int .i64 0] 40)).alloc (.cells #[.int .i64 (E.p.steps : Int), .int .i64 E.p.fuse, .bool E.p.done, .bool E.p.down, .int .i64 E.n, .slice q.sa q.sn q.sc, .slice q.la q.ln q.lc, .slice q.ta q.tn q.tc, .slice q.pa q.pn q.pq, .int .i64 (E.steps : Int)] 40)) w.heap.size (dc E q) 40 := (((Blk.newAt w _ _ w.heap.size rfl _ rfl).old _).old _).old _
  obtain ⟨bl, hbl⟩ : ∃ bl, bl = (like o.c).tail := ⟨_, rfl⟩
  obtain ⟨cd, hcd⟩ : ∃ cd : Int, cd = (D.write o.at_ bl).2 := ⟨_, rfl⟩
  obtain ⟨cr, hcr⟩ : ∃ cr : Int, cr = (E.write o.at_ bl).2 := ⟨_, rfl⟩
  obtain ⟨bb, hbb⟩ : ∃ bb : Bool, (cd == cr) = bb := ⟨_, rfl⟩
  have hbd : decide (cd = cr) = bb := by rw [← hbb]; rfl
  have HBB : Hid (D = E → bb = true) := fun e => by rw [← hbb, hcd, hcr, e]; simp
  obtain ⟨D1, hD1⟩ : ∃ D1 : DskS, D1 = (D.write o.at_ bl).1 := ⟨_, rfl⟩
  obtain ⟨E1, hE1⟩ : ∃ E1 : DskS, E1 = (E.write o.at_ bl).1 := ⟨_, rfl⟩
  have CF : Hid (∀ u gb, w.heap.size + 3 < u.heap.size → Below w.heap.size w u → B5 B u (some ⟨gb, 1, none⟩) 511 511 bl → Calls Try.prog 34 #[dv E q, .int .i64 o.at_, .slice (some ⟨gb, 1, none⟩) 511 511] u fun e w' => ∃ q', e = .returned (.tuple #[dv E1 q', .int .i64 cr]) ∧ RD B w' E1 q' ∧ Below u.heap.size u w') := fun u gb hu hb h5 => by rw [hcr, hE1]; exact rWrite u (hrB.below hb) (fun j hj => hnew.out j (by omega)) hfE hmm o.at_ hat h5
  have CP : Hid (∀ u gb, Below w.heap.size w u → B5 B u (some ⟨gb, 1, none⟩) 511 511 bl → Calls Try.prog 26 #[.pointer (some ⟨d, 0, none⟩), .int .i64 o.at_, .slice (some ⟨gb, 1, none⟩) 511 511] u fun e w' => e = .returned (.int .i64 cd) ∧ Dks U F u d r D1 w') := fun u gb hb h5 => by rw [hcd, hD1]; exact oDWrite u (HD.out.grows hb) hf hmm o.at_ hat ((h5.mono (fun j _ hj => hn1.out j hj)).ba)
  rw [← hbl, ← hD1, ← hE1]
  rw [hdv]
  rw [hdv] at CF
  clear hcd hcr hE1 hD1 hdv hrB hr hd hV hf hfE hB hK ho
  go_enter Try.func14, Try.ntmps14
  go_wp2_with fail
  refine (lFill _ o.c).mono ?_
  rintro e v0 ⟨gb, rfl, hgb, h50, hv0⟩
  have h5 : B5 B v0 (some ⟨gb, 1, none⟩) 511 511 bl := by rw [hbl]; exact (h50.mono (fun j _ hj => hnew.out j (Nat.lt_of_lt_of_le hs0 hj))).tail
  have b8a := b8.below hv0 b8.lt
  have bOa := bO.below hv0 bO.lt
  have k0 := kb.trans (Below.mono hv0 kb.size)
  have hsa : w.heap.size + 3 < v0.heap.size := Nat.lt_of_lt_of_le hs0 hv0.size
  have bRa := bR.below hv0 bR.lt
  have cA : v0.cell? ⟨w.heap.size + 1, 1, none⟩ = some (.int .i64 o.at_) := bOa.cell 1
  have cN : v0.cell? ⟨w.heap.size + 1, 8, none⟩ = some (.int .i64 o.n) := bOa.cell 8
  clear b8 bO bR kb hs0 h50 hv0 hgb hbl
  go_wp2_with ((with_reducible refine at_ld 40 ?_); go_must (refine ld 40 (.tmp 6) 10 size40 _ Try.underlying40 rfl w.heap.size 0 (dc E q) rfl bRa.whole rfl ?_))
  refine (CF.out v0 gb hsa k0 h5).mono ?_
  rintro e v1 ⟨q1, rfl, hr1, hv1⟩
  have b8v := b8a.below hv1 b8a.lt
  have bOv := bOa.below hv1 bOa.lt
  have kv := k0.trans (Below.mono hv1 k0.size)
  have hg1 : w.heap.size + 3 < v1.heap.size := Nat.lt_of_lt_of_le hsa hv1.size
  have h5v := h5.below hv1
  clear b8a bOa k0 CF hv1 hsa h5 bRa cA cN
  obtain ⟨g, hg⟩ : ∃ g, g = v1.heap.size := ⟨_, rfl⟩
  have z7 : Blk (v1.alloc (.cells #[.int .i64 0, .int .i64 0, .bool false, .bool false, .int .i64 0, .slice none 0 0, .slice none 0 0, .slice none 0 0, .slice none 0 0, .int .i64 0] 40)) g z40 40 := Blk.newAt v1 _ _ g hg.symm _ rfl
  have k7 : Below v1.heap.size v1 (v1.alloc (.cells #[.int .i64 0, .int .i64 0, .bool false, .bool false, .int .i64 0, .slice none 0 0, .slice none 0 0, .slice none 0 0, .slice none 0 0, .int .i64 0] 40)) := below_alloc _ _
  have hwg : w.heap.size + 3 < g := by omega
  unfold dv
  go_wp2_with ((with_reducible refine at_st 40 ?_); (refine st' 40 (.tmp 17) (.tmp 67) 10 size40 v1.heap.size 0 (dc E1 q1) rfl (dc_one _ _) (by rw [← hg]; exact z7.there 0 10 (by simp [z40])) rfl rfl ?_); intro v3 hv3; have b7 : Blk v3 g (dc E1 q1) 40 := (by rw [hv3, ← hg]; exact z7.setsW _ rfl); have k3 : Below v1.heap.size v1 v3 := (by rw [hv3]; exact below_sets (Nat.le_refl _) _ k7 0); clear hv3)
  rw [← hg]
  have bOx := bOv.below k3 bOv.lt
  have h5x := h5v.below k3
  have X1 : ∀ u, Kp F v3 u → u.cell? ⟨w.heap.size + 1, 1, none⟩ = some (.int .i64 o.at_) := fun u h => (h.blk bOx (fun hF => by have := hFlt.out _ hF; omega)).cell 1
  clear bOv bOx h5v
  have b8x := b8v.below k3 b8v.lt
  have kx := kv.trans (k3.mono kv.size)
  have hrx := hr1.below k3
  have hs3 := b7.lt
  clear hr1 z7 k7 b8v kv hg hg1 k3
  refine regionE 8 (S := Kp F v3) (by kernel_rfl) (Kp.of_below (Below.refl _ v3).drew) ?_
  refine takeT 0 (some 69) (dv E1 q1) rfl rfl (by kernel_rfl) (fun _ _ _ h => h) (ans_row 40 (.tmp 17) _ 10 rfl (by rfl) g 0 rfl (dc E1 q1) (fun u h => (h.blk b7 (fun hF => by have := hFlt.out g hF; omega)).whole) Try.underlying40 rfl rfl size40) ?_
  simp only [Act.put, List.setIfInBounds_toArray, List.set_cons_zero, List.set_cons_succ]
  refine takeT 1 (some 70) (.pointer (some ⟨d, 0, none⟩)) rfl rfl (by kernel_rfl) (fun _ _ _ h => h) (ans_plain (by rfl) (fun w _ => rfl)) ?_
  simp only [Act.put, List.setIfInBounds_toArray, List.set_cons_zero, List.set_cons_succ]
  refine takeT 2 (some 71) (.pointer (some ⟨w.heap.size + 1, 1, none⟩)) rfl rfl (by kernel_rfl) (fun _ _ _ h => h) (ans_plain (by rfl) (fun w _ => by unfold execOp; go_simp)) ?_
  simp only [Act.put, List.setIfInBounds_toArray, List.set_cons_zero, List.set_cons_succ]
  refine takeT 3 (some 72) (.int .i64 o.at_) rfl rfl (by kernel_rfl) (fun _ _ _ h => h) (ans_plain (by rfl) (fun w h => by have hc := X1 w h; unfold execOp; go_simp)) ?_
  simp only [Act.put, List.setIfInBounds_toArray, List.set_cons_zero, List.set_cons_succ]
  refine takeT 4 (some 73) (.slice (some ⟨gb, 1, none⟩) 511 511) rfl rfl (by kernel_rfl) (fun _ _ _ h => h) (ans_plain (by rfl) (fun w _ => rfl)) ?_
  simp only [Act.put, List.setIfInBounds_toArray, List.set_cons_zero, List.set_cons_succ]
  refine takeP 6 (some 75) (.int .i64 cr) rfl rfl (by kernel_rfl) (fun _ _ _ h => h) (by rfl) (fun w => by unfold execOp; go_simp) ?_
  simp only [Act.put, List.setIfInBounds_toArray, List.set_cons_zero, List.set_cons_succ]
  refine callE 5 (some 74) 26 #[.tmp 70, .tmp 72, .tmp 73] #[31, 3, 26] #[.pointer (some ⟨d, 0, none⟩), .int .i64 o.at_, .slice (some ⟨gb, 1, none⟩) 511 511] rfl rfl rfl (by rfl) (by rfl) (by kernel_rfl) (by kernel_rfl) Try.call26 fun u1 hg1 _ => ?_
  have hs1 : Grows v3 u1 := Grows.trans (Below.refl _ v3).drew hg1
  refine (CP.out u1 gb (kx.trans (Below.mono hs1 kx.size)) (h5x.below hs1)).mono ?_
  rintro e u2 ⟨rfl, hD1⟩
  obtain ⟨U2, F2, hd2, hU2, hF2, hk2⟩ := hD1
  have ks2 : Kp F v3 u2 := (Kp.of_below hs1).trans hk2
  refine ⟨_, rfl, ks2, ?_⟩
  simp only [Act.put, List.setIfInBounds_toArray, List.set_cons_zero, List.set_cons_succ]
  refine takeP 7 (some 76) (.bool bb) rfl rfl (by kernel_rfl) (fun _ _ _ h => h) (by rfl) (fun w => by unfold execOp; go_simp) ?_
  simp only [Act.put, List.setIfInBounds_toArray, List.set_cons_zero, List.set_cons_succ]
  refine goE (by kernel_rfl) (by kernel_rfl) (by kernel_rfl) fun u3 hg3 ks3 => ?_
  refine opStR 8 40 (.tmp 8) (.tmp 69) 10 rfl rfl rfl rfl (w.heap.size + 1 + 1) z40 (dc E1 q1) _ (ks3.blk b8x (fun hF => by have := hFlt.out _ hF; omega)) rfl rfl (dc_one _ _) size40 rfl rfl fun u4 b4 q4 => ?_
  refine takeP 9 (some 9) (.bool bb) rfl rfl (by kernel_rfl) (fun _ _ _ h => h) (by rfl) (fun w => by unfold execOp; go_simp) ?_
  simp only [Act.put, List.setIfInBounds_toArray, List.set_cons_zero, List.set_cons_succ]
  refine endE (by kernel_rfl) fun u5 hg5 => ?_
  have b5 := b4.below hg5 b4.lt
  have fin := pair_end HD.out kx hrx hn1.out hnV.out (fun j hj e => hn.out j hj (by omega)) hs1 hd2 hU2 hF2 hk2 hg3 q4 hg5 (by omega) (by omega)
  clear hrx b8x b7 kx ks2 ks3 hk2 hF2 hU2 hd2 q4 b4 hg3 hg5 hs1 hg1
  go_wp2_with fail
  exact bodyPost_ret (v := .tuple #[dv E1 q1, .bool bb]) (res2 Try.results14 _ _ (w.heap.size + 1 + 1) (dc E1 q1).toArray rfl (run_loadVar_row u5 (w.heap.size + 1 + 1) 40 40 (dc E1 q1).toArray (0, 0) _ b5 Try.underlying40 rfl size40) _ rfl) rfl ⟨q1, bb, rfl, HBB.out, fin⟩

end Go.Proofs.Ytfdilgnlfademaa

/-
  One act of layer 9's statements: a flush. Conditions: acts as the statements have them.
-/
namespace Go.Proofs.Ytfdilgnlfademaa
open Go.RowKit
set_option linter.unusedVariables false

set_option maxRecDepth 100000 in
set_option maxHeartbeats 8000000 in
theorem lDo2 (w : World) {V U F : Nat → Prop} {d r : Nat} {D E : DskS} {q : Quad} (hd : Dk U F w d r D) (hV : ∀ j, V j → j < w.heap.size) (hr : RD (fun j => ¬ F j ∧ ¬ V j) w E q) {mm : Nat} (hf : D.fit mm) (hfE : E.fit mm) (hmm : mm ≤ 5000) (o : OpS) {xa : Option Addr} {xm xc : Nat} (hB : BA (fun j => ¬ F j) w xa xm xc o.x.bytes) {ka : Option Addr} {kn kc : Nat} (hK : BoA (fun j => ¬ F j) w ka kn kc o.keep) (ho : o.fits) :
    Calls Try.prog 14 #[.pointer (some ⟨r, 0, none⟩), .pointer (some ⟨d, 0, none⟩), dv E q, .agg #[.int .i64 2, .int .i64 o.at_, .int .u8 (o.c.toNat : Int), .int .i64 o.x.on, .int .i64 o.x.at_, .int .i64 o.x.kind, .slice xa xm xc, .int .i64 o.x.num, .int .i64 o.n, .bool o.done, .slice ka kn kc]] w (Did (D = E) V U F w d r (D.flushed) (E.flushed)) := by
  obtain ⟨B, hB'⟩ : ∃ B : Nat → Prop, B = fun j => (¬ F j ∧ ¬ V j) ∧ ¬ (w.heap.size ≤ j ∧ j ≤ w.heap.size + 3) := ⟨_, rfl⟩
  have hn1 : Hid (∀ j, B j → ¬ F j) := fun j hj => by rw [hB'] at hj; exact hj.1.1
  have hnV : Hid (∀ j, B j → ¬ V j) := fun j hj => by rw [hB'] at hj; exact hj.1.2
  have hn : Hid (∀ j, B j → ¬ (w.heap.size ≤ j ∧ j ≤ w.heap.size + 3)) := fun j hj => by rw [hB'] at hj; exact hj.2
  have hFlt : Hid (∀ j, F j → j < w.heap.size) := fun j hj => hd.lt j (hd.sub j hj)
  have hnew : Hid (∀ j, w.heap.size + 3 < j → B j) := fun j hj => by rw [hB']; exact ⟨⟨fun hF => by have := hFlt.out j hF; omega, fun hv => by have := hV j hv; omega⟩, by omega⟩
  have hrB : RD B w E q := hr.mono fun j hj ha => by rw [hB']; exact ⟨ha, by omega⟩
  clear hB'
  have HD : Hid (Dk U F w d r D) := hd
  have HG : Hid (∀ j, V j → j < w.heap.size) := hV
  have b8 : Blk ((((w.alloc (.cells #[.int .i64 (E.p.steps : Int), .int .i64 E.p.fuse, .bool E.p.done, .bool E.p.down, .int .i64 E.n, .slice q.sa q.sn q.sc, .slice q.la q.ln q.lc, .slice q.ta q.tn q.tc, .slice q.pa q.pn q.pq, .int .i64 (E.steps : Int)] 40)).alloc (.cells #[.int .i64 2, .int .i64 o.at_, .int .u8 (o.c.toNat : Int), .int .i64 o.x.on, .int .i64 o.x.at_, .int .i64 o.x.kind, .slice xa xm xc, .int .i64 o.x.num, .int .i64 o.n, .bool o.done, .slice ka kn kc] 50)).alloc (.cells #[.int .i64 0, .int .i64 0, .bool false, .bool false, .int .i64 0, .slice none 0 0, .slice none 0 0, .slice none 0 0, .slice none 0 0, .int .i64 0] 40)).alloc (.cells #[.int .i64 (E.p.steps : Int), .int .i64 E.p.fuse, .bool E.p.done, .bool E.p.down, .int .i64 E.n, .slice q.sa q.sn q.sc, .slice q.la q.ln q.lc, .slice q.ta q.tn q.tc, .slice q.pa q.pn q.pq, .int .i64 (E.steps : Int)] 40)) (w.heap.size + 1 + 1) z40 40 := ((Blk.newAt ((w.alloc _).alloc _) _ _ (w.heap.size + 1 + 1) (by simp) _ rfl).old _)
  have kb : Below w.heap.size w ((((w.alloc (.cells #[.int .i64 (E.p.steps : Int), .int .i64 E.p.fuse, .bool E.p.done, .bool E.p.down, .int .i64 E.n, .slice q.sa q.sn q.sc, .slice q.la q.ln q.lc, .slice q.ta q.tn q.tc, .slice q.pa q.pn q.pq, .int .i64 (E.steps : Int)] 40)).alloc (.cells #[.int .i64 2, .int .i64 o.at_, .int .u8 (o.c.toNat : Int), .int .i64 o.x.on, .int .i64 o.x.at_, .int .i64 o.x.kind, .slice xa xm xc, .int .i64 o.x.num, .int .i64 o.n, .bool o.done, .slice ka kn kc] 50)).alloc (.cells #[.int .i64 0, .int .i64 0, .bool false, .bool false, .int .i64 0, .slice none 0 0, .slice none 0 0, .slice none 0 0, .slice none 0 0, .int .i64 0] 40)).alloc (.cells #[.int .i64 (E.p.steps : Int), .int .i64 E.p.fuse, .bool E.p.done, .bool E.p.down, .int .i64 E.n, .slice q.sa q.sn q.sc, .slice q.la q.ln q.lc, .slice q.ta q.tn q.tc, .slice q.pa q.pn q.pq, .int .i64 (E.steps : Int)] 40)) := below4 _ _ _ _ _
  have hs0 : w.heap.size + 3 < (((((w.alloc (.cells #[.int .i64 (E.p.steps : Int), .int .i64 E.p.fuse, .bool E.p.done, .bool E.p.down, .int .i64 E.n, .slice q.sa q.sn q.sc, .slice q.la q.ln q.lc, .slice q.ta q.tn q.tc, .slice q.pa q.pn q.pq, .int .i64 (E.steps : Int)] 40)).alloc (.cells #[.int .i64 2, .int .i64 o.at_, .int .u8 (o.c.toNat : Int), .int .i64 o.x.on, .int .i64 o.x.at_, .int .i64 o.x.kind, .slice xa xm xc, .int .i64 o.x.num, .int .i64 o.n, .bool o.done, .slice ka kn kc] 50)).alloc (.cells #[.int .i64 0, .int .i64 0, .bool false, .bool false, .int .i64 0, .slice none 0 0, .slice none 0 0, .slice none 0 0, .slice none 0 0, .int .i64 0] 40)).alloc (.cells #[.int .i64 (E.p.steps : Int), .int .i64 E.p.fuse, .bool E.p.done, .bool E.p.down, .int .i64 E.n, .slice q.sa q.sn q.sc, .slice q.la q.ln q.lc, .slice q.ta q.tn q.tc, .slice q.pa q.pn q.pq, .int .i64 (E.steps : Int)] 40))).heap.size := by simp
  have hdv : dv E q = .agg #[.int .i64 (E.p.steps : Int), .int .i64 E.p.fuse, .bool E.p.done, .bool E.p.down, .int .i64 E.n, .slice q.sa q.sn q.sc, .slice q.la q.ln q.lc, .slice q.ta q.tn q.tc, .slice q.pa q.pn q.pq, .int .i64 (E.steps : Int)] := rfl
  obtain ⟨cd, hcd⟩ : ∃ cd : Int, cd = if D.p.ok then 0 else 5 := ⟨_, rfl⟩
  obtain ⟨cr, hcr⟩ : ∃ cr : Int, cr = if E.p.ok then 0 else 5 := ⟨_, rfl⟩
  obtain ⟨bb, hbb⟩ : ∃ bb : Bool, (cd == cr) = bb := ⟨_, rfl⟩
  have hbd : decide (cd = cr) = bb := by rw [← hbb]; rfl
  have HBB : Hid (D = E → bb = true) := fun e => by rw [← hbb, hcd, hcr, e]; simp
  have CF : Hid (∀ u, w.heap.size + 3 < u.heap.size → Below w.heap.size w u → Calls Try.prog 35 #[dv E q] u fun e w' => ∃ q', e = .returned (.tuple #[dv E.flushed q', .int .i64 cr]) ∧ RD B w' E.flushed q' ∧ Below u.heap.size u w')  := fun u hu hb => by rw [hcr]; exact rFlush u (hrB.below hb) (fun j hj => hnew.out j (by omega)) hfE hmm
  have CP : Hid (∀ u, Below w.heap.size w u → Calls Try.prog 23 #[.pointer (some ⟨d, 0, none⟩)] u fun e w' => e = .returned (.int .i64 cd) ∧ Dks U F u d r D.flushed w') := fun u hb => by rw [hcd]; exact oDFlush u (HD.out.grows hb) hf hmm
  clear hcd hcr
  generalize D.flushed = D1 at *
  generalize E.flushed = E1 at *
  rw [hdv]
  rw [hdv] at CF
  clear hdv hrB hr hd hV hf hfE hB hK ho
  go_enter Try.func14, Try.ntmps14
  go_wp2_with fail
  refine (CF.out _ hs0 kb).mono ?_
  rintro e v1 ⟨q1, rfl, hr1, hv1⟩
  have b8v := b8.below hv1 b8.lt
  have kv := kb.trans (Below.mono hv1 kb.size)
  have hg1 : w.heap.size + 3 < v1.heap.size := Nat.lt_of_lt_of_le hs0 hv1.size
  clear b8 kb CF hv1 hs0
  obtain ⟨g, hg⟩ : ∃ g, g = v1.heap.size := ⟨_, rfl⟩
  have z7 : Blk (v1.alloc (.cells #[.int .i64 0, .int .i64 0, .bool false, .bool false, .int .i64 0, .slice none 0 0, .slice none 0 0, .slice none 0 0, .slice none 0 0, .int .i64 0] 40)) g z40 40 := Blk.newAt v1 _ _ g hg.symm _ rfl
  have k7 : Below v1.heap.size v1 (v1.alloc (.cells #[.int .i64 0, .int .i64 0, .bool false, .bool false, .int .i64 0, .slice none 0 0, .slice none 0 0, .slice none 0 0, .slice none 0 0, .int .i64 0] 40)) := below_alloc _ _
  have hwg : w.heap.size + 3 < g := by omega
  unfold dv
  go_wp2_with ((with_reducible refine at_st 40 ?_); (refine st' 40 (.tmp 19) (.tmp 82) 10 size40 v1.heap.size 0 (dc E1 q1) rfl (dc_one _ _) (by rw [← hg]; exact z7.there 0 10 (by simp [z40])) rfl rfl ?_); intro v3 hv3; have b7 : Blk v3 g (dc E1 q1) 40 := (by rw [hv3, ← hg]; exact z7.setsW _ rfl); have k3 : Below v1.heap.size v1 v3 := (by rw [hv3]; exact below_sets (Nat.le_refl _) _ k7 0); clear hv3)
  rw [← hg]
  have b8x := b8v.below k3 b8v.lt
  have kx := kv.trans (k3.mono kv.size)
  have hrx := hr1.below k3
  have hs3 := b7.lt
  clear hr1 z7 k7 b8v kv hg hg1 k3
  refine regionE 5 (S := Kp F v3) (by kernel_rfl) (Kp.of_below (Below.refl _ v3).drew) ?_
  refine takeT 0 (some 84) (dv E1 q1) rfl rfl (by kernel_rfl) (fun _ _ _ h => h) (ans_row 40 (.tmp 19) _ 10 rfl (by rfl) g 0 rfl (dc E1 q1) (fun u h => (h.blk b7 (fun hF => by have := hFlt.out g hF; omega)).whole) Try.underlying40 rfl rfl size40) ?_
  simp only [Act.put, List.setIfInBounds_toArray, List.set_cons_zero, List.set_cons_succ]
  refine takeT 1 (some 85) (.pointer (some ⟨d, 0, none⟩)) rfl rfl (by kernel_rfl) (fun _ _ _ h => h) (ans_plain (by rfl) (fun w _ => rfl)) ?_
  simp only [Act.put, List.setIfInBounds_toArray, List.set_cons_zero, List.set_cons_succ]
  refine takeP 3 (some 87) (.int .i64 cr) rfl rfl (by kernel_rfl) (fun _ _ _ h => h) (by rfl) (fun w => by unfold execOp; go_simp) ?_
  simp only [Act.put, List.setIfInBounds_toArray, List.set_cons_zero, List.set_cons_succ]
  refine callE 2 (some 86) 23 #[.tmp 85] #[31] #[.pointer (some ⟨d, 0, none⟩)] rfl rfl rfl (by rfl) (by rfl) (by kernel_rfl) (by kernel_rfl) Try.call23 fun u1 hg1 _ => ?_
  have hs1 : Grows v3 u1 := Grows.trans (Below.refl _ v3).drew hg1
  refine (CP.out u1 (kx.trans (Below.mono hs1 kx.size))).mono ?_
  rintro e u2 ⟨rfl, hD1⟩
  obtain ⟨U2, F2, hd2, hU2, hF2, hk2⟩ := hD1
  have ks2 : Kp F v3 u2 := (Kp.of_below hs1).trans hk2
  refine ⟨_, rfl, ks2, ?_⟩
  simp only [Act.put, List.setIfInBounds_toArray, List.set_cons_zero, List.set_cons_succ]
  refine takeP 4 (some 88) (.bool bb) rfl rfl (by kernel_rfl) (fun _ _ _ h => h) (by rfl) (fun w => by unfold execOp; go_simp) ?_
  simp only [Act.put, List.setIfInBounds_toArray, List.set_cons_zero, List.set_cons_succ]
  refine goE (by kernel_rfl) (by kernel_rfl) (by kernel_rfl) fun u3 hg3 ks3 => ?_
  refine opStR 5 40 (.tmp 8) (.tmp 84) 10 rfl rfl rfl rfl (w.heap.size + 1 + 1) z40 (dc E1 q1) _ (ks3.blk b8x (fun hF => by have := hFlt.out _ hF; omega)) rfl rfl (dc_one _ _) size40 rfl rfl fun u4 b4 q4 => ?_
  refine takeP 6 (some 9) (.bool bb) rfl rfl (by kernel_rfl) (fun _ _ _ h => h) (by rfl) (fun w => by unfold execOp; go_simp) ?_
  simp only [Act.put, List.setIfInBounds_toArray, List.set_cons_zero, List.set_cons_succ]
  refine endE (by kernel_rfl) fun u5 hg5 => ?_
  have b5 := b4.below hg5 b4.lt
  have fin := pair_end HD.out kx hrx hn1.out hnV.out (fun j hj e => hn.out j hj (by omega)) hs1 hd2 hU2 hF2 hk2 hg3 q4 hg5 (by omega) (by omega)
  clear hrx b8x b7 kx ks2 ks3 hk2 hF2 hU2 hd2 q4 b4 hg3 hg5 hs1 hg1
  go_wp2_with fail
  exact bodyPost_ret (v := .tuple #[dv E1 q1, .bool bb]) (res2 Try.results14 _ _ (w.heap.size + 1 + 1) (dc E1 q1).toArray rfl (run_loadVar_row u5 (w.heap.size + 1 + 1) 40 40 (dc E1 q1).toArray (0, 0) _ b5 Try.underlying40 rfl size40) _ rfl) rfl ⟨q1, bb, rfl, HBB.out, fin⟩

end Go.Proofs.Ytfdilgnlfademaa
