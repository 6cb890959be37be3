/-
  8 texts in one. No statement of the seat is proved here.
-/
import Derived.Test.YtlenmkhmkommcaaGreatJ7
import Derived.Deep.Matrix
/-
  The contract of layer 9's reference's Crash. Conditions: lists of at most a million.
-/
namespace Go.Proofs.YtlenmkhmkommcaaGreat
open Go.RowKit
set_option linter.unusedVariables false

/-- What is kept of changes. -/
def kept : List Chg → List Bool → List Chg
  | c :: l, true :: b => c :: kept l b
  | _ :: l, false :: b => kept l b
  | _, _ => []
theorem kept_snoc : ∀ (l : List Chg) (b : List Bool) (k : Nat) (c : Chg) (x : Bool), l[k]? = some c → b[k]? = some x → kept (l.take (k + 1)) (b.take (k + 1)) = kept (l.take k) (b.take k) ++ (if x then [c] else [])
  | [], _, _, _, _, h, _ => by simp at h
  | _ :: _, [], _, _, _, _, h => by simp at h
  | a :: l, y :: b, 0, c, x, h, h' => by
    simp at h h'
    subst h h'
    cases y <;> simp [kept]
  | a :: l, y :: b, k + 1, c, x, h, h' => by
    have := kept_snoc l b k c x (by simpa using h) (by simpa using h')
    cases y
    · simpa [kept] using this
    · simp only [List.take_succ_cons, kept]
      rw [this]
      rfl
theorem kept_end : ∀ (l : List Chg) (b : List Bool) (k : Nat), k ≤ l.length → k ≤ b.length → (k = l.length ∨ k = b.length) → kept (l.take k) (b.take k) = kept l b
  | [], b, k, h, _, _ => by
    obtain rfl : k = 0 := by simpa using h
    cases b <;> rfl
  | a :: l, [], k, _, h, _ => by
    obtain rfl : k = 0 := by simpa using h
    rfl
  | a :: l, y :: b, 0, _, _, h => by simp at h
  | a :: l, y :: b, k + 1, h1, h2, h3 => by
    have := kept_end l b k (by simpa using h1) (by simpa using h2) (by simpa using h3)
    cases y
    · simpa [kept] using this
    · simp only [List.take_succ_cons, kept]
      rw [this]
theorem kept_len : ∀ (l : List Chg) (b : List Bool), (kept l b).length ≤ l.length
  | [], b => by cases b <;> simp [kept]
  | a :: l, [] => by simp [kept]
  | a :: l, true :: b => by have := kept_len l b; simp [kept]; omega
  | a :: l, false :: b => by have := kept_len l b; simp [kept]; omega
def DskS.crash (D : DskS) (b : List Bool) : DskS := { D.settles (kept D.loose b) with loose := [] }

set_option maxRecDepth 100000 in
set_option maxHeartbeats 8000000 in
theorem rCrash (w : World) {A : Nat → Prop} {D : DskS} {q : Quad} (h : RD A w D q) (hA : ∀ j, w.heap.size ≤ j → A j) {pa : Option Addr} {m c : Nat} {b : List Bool} (hb : Bo w pa m c b) (hz : D.safe.length + D.loose.length + 1 ≤ 1000000) :
    Calls Tryz.prog 20 #[dv D q, .slice pa m c] w fun e w' => ∃ q', e = .returned (dv (D.crash b) q') ∧ RD A w' (D.crash b) q' ∧ Below w.heap.size w w' := by
  obtain ⟨R, hR⟩ : ∃ R, R = D.crash b := ⟨_, rfl⟩
  rw [← hR]
  have HR : Hid (R = D.crash b) := hR
  clear hR
  unfold DskS.crash at HR
  obtain ⟨B, hB'⟩ : ∃ B : Nat → Prop, B = fun j => A j ∧ ¬ (w.heap.size ≤ j ∧ j ≤ w.heap.size + 1 + 1) := ⟨_, rfl⟩
  have hm : Hid (∀ j, B j → A j) := fun j hj => by rw [hB'] at hj; exact hj.1
  have hn : Hid (∀ j, B j → ¬ (w.heap.size ≤ j ∧ j ≤ w.heap.size + 1 + 1)) := fun j hj => by rw [hB'] at hj; exact hj.2
  have hnew : Hid (∀ j, w.heap.size + 1 + 1 < j → B j) := fun j hj => by rw [hB']; exact ⟨hA j (by omega), by omega⟩
  have hrB : RD B w D q := h.mono fun j hj ha => by rw [hB']; exact ⟨ha, by omega⟩
  clear hB'
  have HBL : Hid (b.length = m) := hb.len
  have HB : Hid (Bo w pa m c b) := hb
  have hmx : m ≤ 9223372036854775807 := by have h1 := hb.2.1; have h2 := hb.2.2.1; unfold maxLen at h2; omega
  have HL1 : Hid (D.loose.length = q.ln) := h.loose.len
  have hln : q.ln ≤ 1000000 := by have := HL1.out; omega
  have HSL : Hid (∀ u, Below w.heap.size w u → Sl (elC B) 2 B u q.la q.ln q.lc D.loose) := fun u hu => (hrB.below hu).loose
  obtain ⟨dk, hdk⟩ : ∃ dk : Nat → DskS, dk = fun k => D.settles (kept (D.loose.take k) (b.take k)) := ⟨_, rfl⟩
  have HD0 : Hid (dk 0 = D) := by rw [hdk]; rfl
  have HDT : Hid (∀ k y, D.loose[k]? = some y → b[k]? = some true → dk (k + 1) = (dk k).settle y.1 y.2) := fun k y hy hx => by rw [hdk]; dsimp only; rw [kept_snoc _ _ k y true hy hx]; exact settles_snoc D _ y
  have HDF : Hid (∀ k y, D.loose[k]? = some y → b[k]? = some false → dk (k + 1) = dk k) := fun k y hy hx => by rw [hdk]; dsimp only; rw [kept_snoc _ _ k y false hy hx]; simp
  have HDL : Hid (∀ k, (dk k).safe.length + 1 ≤ 1000000) := fun k => by rw [hdk]; dsimp only; have h1 := (settles_len (kept (D.loose.take k) (b.take k)) D).1; have h2 := kept_len (D.loose.take k) (b.take k); have h3 := List.length_take_le' k D.loose; omega
  have HDE : Hid (∀ k, k ≤ q.ln → k ≤ m → (k = q.ln ∨ k = m) → dk k = D.settles (kept D.loose b)) := fun k h1 h2 h3 => by rw [hdk]; dsimp only; rw [kept_end D.loose b k (by rw [HL1.out]; exact h1) (by rw [HBL.out]; exact h2) (by rw [HL1.out, HBL.out]; exact h3)]
  have b1 : Blk (((w.alloc (.cells #[.int .i64 (D.p.steps : Int), .int .i64 D.p.fuse, .bool D.p.done, .bool D.p.down, .int .i64 D.n, .slice q.sa q.sn q.sc, .slice q.la q.ln q.lc, .slice q.ta q.tn q.tc, .slice q.pa q.pn q.pq, .int .i64 (D.steps : Int)] 42)).alloc (.cells #[.int .i64 0, .int .i64 0, .bool false, .bool false, .int .i64 0, .slice none 0 0, .slice none 0 0, .slice none 0 0, .slice none 0 0, .int .i64 0] 42)).alloc (.cells #[.int .i64 (D.p.steps : Int), .int .i64 D.p.fuse, .bool D.p.done, .bool D.p.down, .int .i64 D.n, .slice q.sa q.sn q.sc, .slice q.la q.ln q.lc, .slice q.ta q.tn q.tc, .slice q.pa q.pn q.pq, .int .i64 (D.steps : Int)] 42)) w.heap.size (dc D q) 42 := ((Blk.newAt w _ _ w.heap.size rfl _ rfl).old _).old _
  have b2 : Blk (((w.alloc (.cells #[.int .i64 (D.p.steps : Int), .int .i64 D.p.fuse, .bool D.p.done, .bool D.p.down, .int .i64 D.n, .slice q.sa q.sn q.sc, .slice q.la q.ln q.lc, .slice q.ta q.tn q.tc, .slice q.pa q.pn q.pq, .int .i64 (D.steps : Int)] 42)).alloc (.cells #[.int .i64 0, .int .i64 0, .bool false, .bool false, .int .i64 0, .slice none 0 0, .slice none 0 0, .slice none 0 0, .slice none 0 0, .int .i64 0] 42)).alloc (.cells #[.int .i64 (D.p.steps : Int), .int .i64 D.p.fuse, .bool D.p.done, .bool D.p.down, .int .i64 D.n, .slice q.sa q.sn q.sc, .slice q.la q.ln q.lc, .slice q.ta q.tn q.tc, .slice q.pa q.pn q.pq, .int .i64 (D.steps : Int)] 42)) (w.heap.size + 1) z40 42 := (Blk.newAt (w.alloc _) _ _ (w.heap.size + 1) (by simp) _ rfl).old _
  have b5 : Blk (((w.alloc (.cells #[.int .i64 (D.p.steps : Int), .int .i64 D.p.fuse, .bool D.p.done, .bool D.p.down, .int .i64 D.n, .slice q.sa q.sn q.sc, .slice q.la q.ln q.lc, .slice q.ta q.tn q.tc, .slice q.pa q.pn q.pq, .int .i64 (D.steps : Int)] 42)).alloc (.cells #[.int .i64 0, .int .i64 0, .bool false, .bool false, .int .i64 0, .slice none 0 0, .slice none 0 0, .slice none 0 0, .slice none 0 0, .int .i64 0] 42)).alloc (.cells #[.int .i64 (D.p.steps : Int), .int .i64 D.p.fuse, .bool D.p.done, .bool D.p.down, .int .i64 D.n, .slice q.sa q.sn q.sc, .slice q.la q.ln q.lc, .slice q.ta q.tn q.tc, .slice q.pa q.pn q.pq, .int .i64 (D.steps : Int)] 42)) (w.heap.size + 1 + 1) (dc D q) 42 := Blk.newAt ((w.alloc _).alloc _) _ _ (w.heap.size + 1 + 1) (by simp) _ rfl
  have kb : Below w.heap.size w (((w.alloc (.cells #[.int .i64 (D.p.steps : Int), .int .i64 D.p.fuse, .bool D.p.done, .bool D.p.down, .int .i64 D.n, .slice q.sa q.sn q.sc, .slice q.la q.ln q.lc, .slice q.ta q.tn q.tc, .slice q.pa q.pn q.pq, .int .i64 (D.steps : Int)] 42)).alloc (.cells #[.int .i64 0, .int .i64 0, .bool false, .bool false, .int .i64 0, .slice none 0 0, .slice none 0 0, .slice none 0 0, .slice none 0 0, .int .i64 0] 42)).alloc (.cells #[.int .i64 (D.p.steps : Int), .int .i64 D.p.fuse, .bool D.p.done, .bool D.p.down, .int .i64 D.n, .slice q.sa q.sn q.sc, .slice q.la q.ln q.lc, .slice q.ta q.tn q.tc, .slice q.pa q.pn q.pq, .int .i64 (D.steps : Int)] 42)) := below3 _ _ _ _
  have hdv : dv D q = .agg #[.int .i64 (D.p.steps : Int), .int .i64 D.p.fuse, .bool D.p.done, .bool D.p.down, .int .i64 D.n, .slice q.sa q.sn q.sc, .slice q.la q.ln q.lc, .slice q.ta q.tn q.tc, .slice q.pa q.pn q.pq, .int .i64 (D.steps : Int)] := rfl
  rw [hdv]
  clear hdk h hb hdv
  go_enter Tryz.func20, Tryz.ntmps20
  go_wp2_with fail
  have hr0 := hrB.below kb
  generalize (((w.alloc (.cells #[.int .i64 (D.p.steps : Int), .int .i64 D.p.fuse, .bool D.p.done, .bool D.p.down, .int .i64 D.n, .slice q.sa q.sn q.sc, .slice q.la q.ln q.lc, .slice q.ta q.tn q.tc, .slice q.pa q.pn q.pq, .int .i64 (D.steps : Int)] 42)).alloc (.cells #[.int .i64 0, .int .i64 0, .bool false, .bool false, .int .i64 0, .slice none 0 0, .slice none 0 0, .slice none 0 0, .slice none 0 0, .int .i64 0] 42)).alloc (.cells #[.int .i64 (D.p.steps : Int), .int .i64 D.p.fuse, .bool D.p.done, .bool D.p.down, .int .i64 D.n, .slice q.sa q.sn q.sc, .slice q.la q.ln q.lc, .slice q.ta q.tn q.tc, .slice q.pa q.pn q.pq, .int .i64 (D.steps : Int)] 42)) = W0 at *
  clear hrB
  go_loopw [6] (fun i wr => ∃ (k : Nat) (qk : Quad), k ≤ q.ln ∧ k ≤ m ∧ i = .int .i64 (k : Int) ∧ Blk wr w.heap.size (dc D q) 42 ∧ Blk wr (w.heap.size + 1) z40 42 ∧ Blk wr (w.heap.size + 1 + 1) (dc (dk k) qk) 42 ∧ RD B wr (dk k) qk ∧ Below w.heap.size w wr) (fun i _ => q.ln - (intOf i).toNat)
  case atStart => exact ⟨0, q, Nat.zero_le _, Nat.zero_le _, rfl, b1, b2, by rw [HD0.out]; exact b5, by rw [HD0.out]; exact hr0, kb⟩
  case round =>
    clear b1 b2 b5 kb hr0
    obtain ⟨k, qk, hk, hkm, rfl, b1, b2, b5, hr, kw⟩ := hrel
    have l1 := b1.lt
    have l5 := b5.lt
    have f6 : wr.cell? ⟨w.heap.size, 6, none⟩ = some (.slice q.la q.ln q.lc) := b1.cell 6
    by_cases hgo : k < q.ln ∧ k < m
    · have i0 : (k : Int) < (q.ln : Int) := by omega
      have i1 : (k : Int) < (m : Int) := by omega
      have i3 : (0 : Int) ≤ (k : Int) := by omega
      obtain ⟨y, hy⟩ : ∃ y, D.loose[k]? = some y := ⟨_, List.getElem?_eq_getElem (by rw [HL1.out]; exact hgo.1)⟩
      obtain ⟨x, hx⟩ : ∃ x, b[k]? = some x := ⟨_, List.getElem?_eq_getElem (by rw [HBL.out]; exact hgo.2)⟩
      obtain ⟨xb, xo, hpa, hxl, hxc⟩ := HB.out.at (by omega)
      have cb : wr.cell? ⟨xb, xo + k, none⟩ = some (.bool x) := by rw [kw.cell (p := ⟨xb, xo + k, none⟩) hxl]; have := hxc k hgo.2; rw [this]; congr 2; rw [List.getD_eq_getElem?_getD, hx]; rfl
      subst hpa
      cases x with
      | true =>
        obtain ⟨eb, eo, ep, em, eq, hla, hlb, cx, cy, hB, hyi⟩ := (HSL.out wr kw).change hy
        have HSS : Hid (dk (k + 1) = (dk k).settle y.1 y.2) := HDT.out k y hy hx
        obtain ⟨ya, yb⟩ := y
        dsimp only at cx cy hB hyi HSS
        have F6 : ∀ u, Grows wr u → u.cell? ⟨w.heap.size, 6, none⟩ = some (.slice (some ⟨eb, eo, none⟩) q.ln q.lc) := fun u h => by have := (b1.below h b1.lt).cell 6; rw [this]; show some (Value.slice q.la q.ln q.lc) = _; rw [hla]
        have F1 : ∀ u, Grows wr u → u.cell? ⟨eb, eo + k * 2, none⟩ = some (.int .i64 ya) := fun u h => (Below.cell h (p := ⟨eb, eo + k * 2, none⟩) hlb).trans cx
        have F2 : ∀ u, Grows wr u → u.cell? ⟨eb, eo + k * 2 + 1, none⟩ = some (.slice ep em eq) := fun u h => (Below.cell h (p := ⟨eb, eo + k * 2 + 1, none⟩) hlb).trans cy
        go_wp2_with fail
        refine regionE 14 (S := Grows wr) (by kernel_rfl) (Below.refl _ wr).drew ?_
        refine takeT 0 (some 25) (dv (dk k) qk) rfl rfl (by kernel_rfl) (fun _ _ _ h => h) (ans_row 42 (.tmp 5) _ 10 rfl (by rfl) (w.heap.size + 1 + 1) 0 rfl (dc (dk k) qk) (fun w h => (b5.below h b5.lt).whole) Tryz.underlying42 rfl rfl size40) ?_
        simp only [Act.put, List.setIfInBounds_toArray, List.set_cons_zero, List.set_cons_succ]
        refine takeT 1 (some 26) (.pointer (some ⟨w.heap.size, 6, none⟩)) rfl rfl (by kernel_rfl) (fun _ _ _ h => h) (ans_plain (by rfl) (fun w _ => by unfold execOp; go_simp)) ?_
        simp only [Act.put, List.setIfInBounds_toArray, List.set_cons_zero, List.set_cons_succ]
        refine takeT 2 (some 27) (.slice (some ⟨eb, eo, none⟩) q.ln q.lc) rfl rfl (by kernel_rfl) (fun _ _ _ h => h) (ans_plain (by rfl) (fun w h => by have hc := F6 w h; unfold execOp; go_simp)) ?_
        simp only [Act.put, List.setIfInBounds_toArray, List.set_cons_zero, List.set_cons_succ]
        refine takeT 3 (some 28) (.int .i64 (k : Int)) rfl rfl (by kernel_rfl) (fun _ _ _ h => h) (ans_plain (by rfl) (fun w _ => rfl)) ?_
        simp only [Act.put, List.setIfInBounds_toArray, List.set_cons_zero, List.set_cons_succ]
        refine takeT 4 (some 29) (.pointer (some ⟨eb, eo + k * 2, none⟩)) rfl rfl (by kernel_rfl) (fun _ _ _ h => h) (ans_plain (by rfl) (fun w _ => by unfold execOp; go_simp)) ?_
        simp only [Act.put, List.setIfInBounds_toArray, List.set_cons_zero, List.set_cons_succ]
        refine takeT 5 (some 30) (.pointer (some ⟨eb, eo + k * 2, none⟩)) rfl rfl (by kernel_rfl) (fun _ _ _ h => h) (ans_plain (by rfl) (fun w _ => by unfold execOp; go_simp)) ?_
        simp only [Act.put, List.setIfInBounds_toArray, List.set_cons_zero, List.set_cons_succ]
        refine takeT 6 (some 31) (.int .i64 ya) rfl rfl (by kernel_rfl) (fun _ _ _ h => h) (ans_plain (by rfl) (fun w h => by have hc := F1 w h; unfold execOp; go_simp)) ?_
        simp only [Act.put, List.setIfInBounds_toArray, List.set_cons_zero, List.set_cons_succ]
        refine takeT 7 (some 32) (.pointer (some ⟨w.heap.size, 6, none⟩)) rfl rfl (by kernel_rfl) (fun _ _ _ h => h) (ans_plain (by rfl) (fun w _ => by unfold execOp; go_simp)) ?_
        simp only [Act.put, List.setIfInBounds_toArray, List.set_cons_zero, List.set_cons_succ]
        refine takeT 8 (some 33) (.slice (some ⟨eb, eo, none⟩) q.ln q.lc) rfl rfl (by kernel_rfl) (fun _ _ _ h => h) (ans_plain (by rfl) (fun w h => by have hc := F6 w h; unfold execOp; go_simp)) ?_
        simp only [Act.put, List.setIfInBounds_toArray, List.set_cons_zero, List.set_cons_succ]
        refine takeT 9 (some 34) (.int .i64 (k : Int)) rfl rfl (by kernel_rfl) (fun _ _ _ h => h) (ans_plain (by rfl) (fun w _ => rfl)) ?_
        simp only [Act.put, List.setIfInBounds_toArray, List.set_cons_zero, List.set_cons_succ]
        refine takeT 10 (some 35) (.pointer (some ⟨eb, eo + k * 2, none⟩)) rfl rfl (by kernel_rfl) (fun _ _ _ h => h) (ans_plain (by rfl) (fun w _ => by unfold execOp; go_simp)) ?_
        simp only [Act.put, List.setIfInBounds_toArray, List.set_cons_zero, List.set_cons_succ]
        refine takeT 11 (some 36) (.pointer (some ⟨eb, eo + k * 2 + 1, none⟩)) rfl rfl (by kernel_rfl) (fun _ _ _ h => h) (ans_plain (by rfl) (fun w _ => by unfold execOp; go_simp)) ?_
        simp only [Act.put, List.setIfInBounds_toArray, List.set_cons_zero, List.set_cons_succ]
        refine takeT 12 (some 37) (.slice ep em eq) rfl rfl (by kernel_rfl) (fun _ _ _ h => h) (ans_plain (by rfl) (fun w h => by have hc := F2 w h; unfold execOp; go_simp)) ?_
        simp only [Act.put, List.setIfInBounds_toArray, List.set_cons_zero, List.set_cons_succ]
        refine callE 13 (some 38) 50 #[.tmp 25, .tmp 31, .tmp 37] #[42, 3, 26] #[dv (dk k) qk, .int .i64 ya, .slice ep em eq] rfl rfl rfl (by rfl) (by rfl) (by kernel_rfl) (by kernel_rfl) Tryz.call50 fun u1 hg1 hs1 => ?_
        have hs7 : w.heap.size + 1 + 1 < u1.heap.size := (b5.below hs1 b5.lt).lt
        refine (rSettle u1 (hr.below hs1) (fun j hj => hnew.out j (by omega)) ya hyi (hB.below hs1).bs (HDL.out k)).mono ?_
        rintro e u2 ⟨q2, rfl, hr2, hb2⟩
        have hs2 : Grows wr u2 := Grows.trans hs1 hb2
        refine ⟨_, rfl, hs2, ?_⟩
        simp only [Act.put, List.setIfInBounds_toArray, List.set_cons_zero, List.set_cons_succ]
        rw [← HSS.out] at hr2 ⊢
        refine lastE (by kernel_rfl) (by kernel_rfl) (by kernel_rfl) (by kernel_rfl) fun u3 hg3 hs3 => ?_
        refine opStR 14 42 (.tmp 5) (.tmp 38) 10 rfl rfl rfl rfl (w.heap.size + 1 + 1) (dc (dk k) qk) (dc (dk (k + 1)) q2) _ (b5.below hs3 b5.lt) rfl rfl (dc_one _ _) size40 rfl rfl fun u4 b4 q4 u5 hg5 => ?_
        have r5 := ((hr2.below hg3).kp q4 (fun j hj e => hn.out j hj (by omega))).below hg5
        have b5z := b4.below hg5 b4.lt
        have b2y := q4.blk (b2.below hs3 b2.lt) (by omega)
        have b2z := b2y.below hg5 b2y.lt
        have b1y := q4.blk (b1.below hs3 b1.lt) (by omega)
        have b1z := b1y.below hg5 b1y.lt
        have k3 := kw.trans (Below.mono hs3 kw.size)
        have k4 := below_kp k3 q4 k3.size (fun j hj e => by omega)
        have k5 := k4.trans (Below.mono hg5 k4.size)
        clear k3 k4 b2y b1y q4 b4 hg3 hs3 hs2 hb2 hr2 hs1 hg1 hs7 F1 F2 F6 hg5 b1 b2 b5 hr kw cx cy hB hlb
        go_wp2_with fail
        go_roundw
        case rel => exact ⟨k + 1, q2, by omega, by omega, by go_num, b1z, b2z, b5z, r5, k5⟩
        case measure => simp [intOf]; omega
      | false =>
        have HSS : Hid (dk (k + 1) = dk k) := HDF.out k y hy hx
        go_wp2_with fail
        go_roundw
        case rel => exact ⟨k + 1, qk, by omega, by omega, by go_num, b1, b2, by rw [HSS.out]; exact b5, by rw [HSS.out]; exact hr, kw⟩
        case measure => simp [intOf]; omega
    · have HE : Hid (dk k = D.settles (kept D.loose b)) := HDE.out k hk hkm (by omega)
      obtain ⟨V, hV⟩ : ∃ V, V = wr.setCell ⟨w.heap.size + 1 + 1, 6, none⟩ (.slice none 0 0) := ⟨_, rfl⟩
      obtain ⟨qn, hqn⟩ : ∃ qn : Quad, qn = ⟨qk.sa, qk.sn, qk.sc, none, 0, 0, qk.ta, qk.tn, qk.tc, qk.pa, qk.pn, qk.pq⟩ := ⟨_, rfl⟩
      rw [← HE.out] at HR
      have bV : Blk V (w.heap.size + 1 + 1) (dc R qn) 42 := by rw [hV, HR.out, hqn]; exact b5.setC 6 _
      have kpV : Kp (fun j => j = w.heap.size + 1 + 1) wr V := by rw [hV]; exact Kp.of_grown (but_set _ _ _ _)
      have b2V := kpV.blk b2 (by omega)
      have kV := below_kp kw kpV kw.size (fun j hj e => by omega)
      have rV : RD B V R qn := (by have h1 := hr.kp kpV (fun j hj e => hn.out j hj (by omega)); rw [HR.out, hqn]; exact ⟨h1.safe, Sl.nil _ _ _ _, h1.seen, h1.plot⟩)
      have g6 : wr.cell? ⟨w.heap.size + 1 + 1, 6, none⟩ = some (.slice qk.la qk.ln qk.lc) := b5.cell 6
      have z6 := b5.free 6
      have WV : Hid (V = wr.setCell ⟨w.heap.size + 1 + 1, 6, none⟩ (.slice none 0 0)) := hV
      have bV2 : Blk (wr.setCell ⟨w.heap.size + 1 + 1, 6, none⟩ (.slice none 0 0)) (w.heap.size + 1 + 1) (dc R qn) 42 := by rw [← WV.out]; exact bV
      have b2V2 : Blk (wr.setCell ⟨w.heap.size + 1 + 1, 6, none⟩ (.slice none 0 0)) (w.heap.size + 1) z40 42 := by rw [← WV.out]; exact b2V
      clear hV hqn kpV b1 b2 b5 hr kw
      by_cases hk2 : k < q.ln
      · have i0 : (k : Int) < (q.ln : Int) := by omega
        have i1 : ¬ (k : Int) < (m : Int) := by omega
        go_wp2_with (first
          | ((with_reducible refine at_ld 42 ?_); (refine ld 42 (.tmp 5) 10 size40 _ Tryz.underlying42 rfl (w.heap.size + 1 + 1) 0 (dc R qn) rfl bV2.whole rfl ?_))
          | ((with_reducible refine at_st 42 ?_); (refine st' 42 (.tmp 4) (.tmp 40) 10 size40 (w.heap.size + 1) 0 (dc R qn) rfl (dc_one _ _) (b2V2.there 0 10 (by simp [z40])) rfl rfl ?_); intro w8 hw8))
        rw [← WV.out] at hw8
        have hg8 := but_cells (w.heap.size + 1) (dc R qn) V 0
        rw [← hw8] at hg8
        have b8 : Blk w8 (w.heap.size + 1) (dc R qn) 42 := by rw [hw8]; exact b2V.setsW _ rfl
        have k8 : Below w.heap.size w w8 := by rw [hw8]; exact below_sets (by omega) _ kV 0
        have r8 := (rV.keep hg8.size (fun j hj hb => hg8.block j hj (fun e => hn.out j hb (by have := Option.some.inj e; omega)))).mono (fun j _ hb => hm.out j hb)
        first | rw [← WV.out, ← hw8] | rw [← hw8] | skip
        exact bodyPost_ret (v := dv R qn) (results_cell_row Tryz.results20 _ _ (w.heap.size + 1) 42 (dc R qn).toArray (0, 0) _ rfl b8 Tryz.underlying42 rfl size40) rfl ⟨qn, rfl, r8, k8⟩
      · have i0 : ¬ (k : Int) < (q.ln : Int) := by omega
        go_wp2_with (first
          | ((with_reducible refine at_ld 42 ?_); (refine ld 42 (.tmp 5) 10 size40 _ Tryz.underlying42 rfl (w.heap.size + 1 + 1) 0 (dc R qn) rfl bV2.whole rfl ?_))
          | ((with_reducible refine at_st 42 ?_); (refine st' 42 (.tmp 4) (.tmp 40) 10 size40 (w.heap.size + 1) 0 (dc R qn) rfl (dc_one _ _) (b2V2.there 0 10 (by simp [z40])) rfl rfl ?_); intro w8 hw8))
        rw [← WV.out] at hw8
        have hg8 := but_cells (w.heap.size + 1) (dc R qn) V 0
        rw [← hw8] at hg8
        have b8 : Blk w8 (w.heap.size + 1) (dc R qn) 42 := by rw [hw8]; exact b2V.setsW _ rfl
        have k8 : Below w.heap.size w w8 := by rw [hw8]; exact below_sets (by omega) _ kV 0
        have r8 := (rV.keep hg8.size (fun j hj hb => hg8.block j hj (fun e => hn.out j hb (by have := Option.some.inj e; omega)))).mono (fun j _ hb => hm.out j hb)
        first | rw [← WV.out, ← hw8] | rw [← hw8] | skip
        exact bodyPost_ret (v := dv R qn) (results_cell_row Tryz.results20 _ _ (w.heap.size + 1) 42 (dc R qn).toArray (0, 0) _ rfl b8 Tryz.underlying42 rfl size40) rfl ⟨qn, rfl, r8, k8⟩

end Go.Proofs.YtlenmkhmkommcaaGreat

/-
  The contract of the reference's Same: it tells whether two rows of bytes are equal, and turns nothing. No condition.
-/
namespace Go.Proofs.YtlenmkhmkommcaaGreat
open Go.RowKit

theorem bt_inj {l m : List UInt8} (h : l.length = m.length) (k : ∀ i, i < l.length → bt l i = bt m i) : l = m := by
  apply List.ext_getElem h
  intro i h1 h2
  have := k i h1
  unfold bt at this
  simp [List.getD_eq_getElem?_getD, h1, h2] at this
  exact UInt8.toNat_inj.1 (by omega)

theorem same_step {l m : List UInt8} {k : Nat} (H : Hid (∀ j, j < k → bt l j = bt m j)) (h : (bt l k != bt m k) = false) (j : Nat) (hj : j < k + 1) : bt l j = bt m j := by
  by_cases e : j = k
  · subst e; simpa using h
  · exact H.out j (by omega)
theorem same_no {l m : List UInt8} {k : Nat} (h : (bt l k != bt m k) = true) : false = decide (l = m) := by
  symm
  rw [decide_eq_false_iff_not]
  intro e
  subst e
  simp at h
theorem same_yes {l m : List UInt8} {n k : Nat} (H : Hid (l.length = n ∧ m.length = n)) (h : ¬ k < n) (hj : ∀ j, j < k → bt l j = bt m j) : true = decide (l = m) := by
  symm
  rw [decide_eq_true_iff]
  obtain ⟨h1, h2⟩ := H.out
  exact bt_inj (by omega) fun i hi => hj i (by omega)

set_option maxHeartbeats 400000 in
theorem rSame (w : World) {a b : Option Addr} {n c n' c' : Nat} {l m : List UInt8} (ha : Bs w a n c l) (hb : Bs w b n' c' m) :
    Calls Tryz.prog 29 #[.slice a n c, .slice b n' c'] w fun e w' => e = .returned (.bool (decide (l = m))) ∧ ∃ k, w' = w.drewN k := by
  have h1 := ha.max
  have h2 := hb.max
  by_cases hn : n = n'
  · subst hn
    by_cases h0 : n = 0
    · subst h0
      have e : decide (l = m) = true := by
        have e1 := ha.len
        have e2 := hb.len
        simp at e1 e2
        simp [e1, e2]
      rw [e]
      clear e ha hb
      go_enter Tryz.func29, Tryz.ntmps29
      go_wp2
      refine wp_loop_rounds 1 ?_; rw [rounds_succ]; go_wp2
      go_ret
      exact ⟨rfl, 0, rfl⟩
    · obtain ⟨x, o, rfl, hx, hc⟩ := ha.at (by omega)
      obtain ⟨y, q, rfl, hy, hd⟩ := hb.at (by omega)
      have e1 := ha.len
      have e2 := hb.len
      have H : Hid (l.length = n ∧ m.length = n) := ⟨e1, e2⟩
      clear e1 e2 ha hb
      go_enter Tryz.func29, Tryz.ntmps29
      go_wp2
      go_loopw [5] (fun i wr => ∃ k : Nat, k ≤ n ∧ i = .int .i64 k ∧ (∃ d, wr = w.drewN d) ∧ ∀ j, j < k → bt l j = bt m j) (fun i _ => n - (intOf i).toNat)
      case atStart => exact ⟨0, Nat.zero_le _, rfl, ⟨0, rfl⟩, fun j hj => by omega⟩
      case round =>
        obtain ⟨k, hk, rfl, ⟨d, rfl⟩, hj⟩ := hrel
        by_cases hlt : k < n
        · have c1 := hc k hlt
          have c2 := hd k hlt
          have H2 : Hid (∀ j, j < k → bt l j = bt m j) := hj
          clear hj hc hd
          by_cases hq : bt l k = bt m k
          · have hq' : (bt l k != bt m k) = false := by simp [hq]
            clear hq
            go_wp2
            go_quiet (fail)
            go_wp2
            go_roundw
            case rel => exact ⟨k + 1, by omega, by go_num, ⟨_, rfl⟩, fun j hj => same_step H2 hq' j hj⟩
            case measure => simp [intOf]; omega
          · have hq' : (bt l k != bt m k) = true := by simp [hq]
            clear hq
            go_wp2
            go_quiet (fail)
            go_wp2
            go_ret
            exact ⟨ret_bool (same_no hq'), _, World.drewN_drewN _ _ _⟩
        · go_wp2
          go_ret
          exact ⟨ret_bool (same_yes H hlt hj), d, rfl⟩
  · have hq' : ((n : Int) != (n' : Int)) = true := by simp; omega
    have e : decide (l = m) = false := by
      have e1 := ha.len
      have e2 := hb.len
      simp
      intro h
      rw [h] at e1
      omega
    rw [e]
    clear e ha hb
    go_enter Tryz.func29, Tryz.ntmps29
    go_wp2
    go_ret
    exact ⟨rfl, 0, rfl⟩
end Go.Proofs.YtlenmkhmkommcaaGreat

/-
  Two like rows held against each other. No condition; no statement of the seat is proved here.
-/
namespace Go.Proofs.YtlenmkhmkommcaaGreat
open Go.RowKit

end Go.Proofs.YtlenmkhmkommcaaGreat

/-
  The contract of layer 9's reference's Touches: whether what was seen is the same. Conditions: lists of at most a million.
-/
namespace Go.Proofs.YtlenmkhmkommcaaGreat
open Go.RowKit
set_option linter.unusedVariables false

theorem Sl.touch {A : Nat → Prop} {w : World} {a : Option Addr} {n c : Nat} {l : List Tch} (h : Sl (elT A) 3 A w a n c l) {s : Nat} {x : Tch} (hx : l[s]? = some x) : ∃ b o p m q, a = some ⟨b, o, none⟩ ∧ b < w.heap.size ∧ w.cell? ⟨b, o + s * 3, none⟩ = some (.int .i64 x.1) ∧ w.cell? ⟨b, o + s * 3 + 1, none⟩ = some (.int .i64 x.2.1) ∧ w.cell? ⟨b, o + s * 3 + 2, none⟩ = some (.slice p m q) ∧ Bs w p m q x.2.2 := by
  obtain ⟨b, o, vs, ha, hlt, hrg, hl, p, m, q, rfl, hb, hi⟩ := h.at hx
  exact ⟨b, o, p, m, q, ha, hlt, by have := hrg 0 _ rfl; rwa [Nat.add_zero] at this, hrg 1 _ rfl, hrg 2 _ rfl, hb.bs⟩
theorem take_more {α : Type} {l m : List α} {k : Nat} {x y : α} (h : l.take k = m.take k) (hx : l[k]? = some x) (hy : m[k]? = some y) (e : x = y) : l.take (k + 1) = m.take (k + 1) := by rw [List.take_add_one, List.take_add_one, hx, hy, h, e]

end Go.Proofs.YtlenmkhmkommcaaGreat

/-
  How an argument that is a slice of bytes is opened into a plain list. No condition; no statement of the seat is proved here.
-/
namespace Go.Proofs.YtlenmkhmkommcaaGreat
open Go.RowKit Go.ChangeShapes Go.WideShapes Go.ChangeAt

theorem Bs.of_trod {H : Type} {enc : TypeId × Value → H} {W : World} {base : Nat} {held : Bool} {fuel : Nat} {a : Option Addr} {n c : Nat} {x : DataW H × List MemPlace}
    (h : DataW.trod enc Tryz.prog W base (fun _ => true) held fuel 26 [.slice a n c] = some x) : ∃ l, Bs W a n c l := by
  rcases open_ints Tryz.underlying26 Tryz.underlying5 (by kernel_rfl) h with ⟨hcs, _⟩ | ⟨x, l, c, zs, hcs, _, hl, hm, hz, _, hcell, hwz⟩
  · simp at hcs
    obtain ⟨rfl, rfl, rfl⟩ := hcs
    exact ⟨[], Bs.nil W⟩
  · simp at hcs
    obtain ⟨rfl, rfl, rfl⟩ := hcs
    exact Bs.of_row (zs := zs) (Or.inr ⟨_, rfl, hl, hm, by simpa using hz, hcell, hwz⟩)

end Go.Proofs.YtlenmkhmkommcaaGreat

/-
  How slices of structs and bytes that were handed in are opened. No condition; no statement of the seat is proved here.
-/
namespace Go.Proofs.YtlenmkhmkommcaaGreat
open Go.RowKit Go.ChangeShapes Go.WideShapes Go.ChangeAt

theorem Rel2.map {α β : Type} {R : α → β → Prop} {f : Nat → α} {g : Nat → β} : ∀ {L : List Nat}, (∀ i ∈ L, R (f i) (g i)) → Rel2 R (L.map f) (L.map g)
  | [], _ => trivial
  | a :: L, h => ⟨h a (by simp), Rel2.map fun i hi => h i (by simp [hi])⟩
theorem len_cons {l : List Value} {n : Nat} (h : l.length = n + 1) : ∃ a m, l = a :: m ∧ m.length = n := by
  cases l with
  | nil => simp at h
  | cons a m => exact ⟨a, m, rfl, by simpa using h⟩
theorem len_zero {l : List Value} (h : l.length = 0) : l = [] := List.length_eq_zero_iff.1 h
/-- Rows in memory, each of them a struct, are a slice of structs. -/
theorem Sl.of_rows {α : Type} (z0 : α) {el : World → α → List Value → Prop} {sz : Nat} {A : Nat → Prop} {W : World} {base : Nat} {y : Addr} {n c : Nat} (hsz : 0 < sz) (hl : n ≤ c) (hm : c ≤ maxLen) (hA : ∀ j, j < W.heap.size → A j)
    (hrow : ∀ i, i < n → ∃ cs', W.cells? base (y.add (i * sz)) sz = some cs' ∧ ∃ x, Row el sz W x cs') : ∃ l, Sl el sz A W (some y) n c l := by
  haveI : Inhabited α := ⟨z0⟩
  have hex : ∀ i, i < n → ∃ z : α × List Value, W.cells? base (y.add (i * sz)) sz = some z.2 ∧ Row el sz W z.1 z.2 := by
    intro i hi
    obtain ⟨cs', h1, x, h2⟩ := hrow i hi
    exact ⟨(x, cs'), h1, h2⟩
  obtain ⟨f, hf⟩ := Deep.choose_lt hex
  have hrel : Rel2 (Row el sz W) ((List.range n).map fun i => (f i).1) ((List.range n).map fun i => (f i).2) := Rel2.map fun i hi => (hf i (by simpa using hi)).2
  refine ⟨(List.range n).map fun i => (f i).1, (List.range n).map fun i => (f i).2, hrel, by simp, hl, hm, by simp, fun hn => ?_⟩
  obtain ⟨b, o, s⟩ := y
  have h00 := (hf 0 hn).1
  obtain ⟨_, hlen0, h0⟩ := World.cells?_some h00
  have hc0 := h0 0 hsz
  have hlt : 0 < (f 0).2.length := by omega
  rw [List.getElem?_eq_getElem hlt] at hc0
  have hs : s = none := by
    have := World.cell?_spot hc0
    simpa [Addr.add] using this
  subst hs
  rw [add_none, add_none] at hc0
  refine ⟨b, o, rfl, lt_of_cell hc0, hA _ (lt_of_cell hc0), ?_⟩
  intro j v hj
  have hflen := flatC_len (rel_lens hrel)
  have hjl : j < n * sz := by
    have := (List.getElem?_eq_some_iff.1 hj).1
    rw [hflen] at this
    simpa using this
  have hi : j / sz < n := (Nat.div_lt_iff_lt_mul hsz).2 hjl
  have hr : j % sz < sz := Nat.mod_lt _ hsz
  have hdm : j / sz * sz + j % sz = j := by rw [Nat.mul_comm]; exact Nat.div_add_mod j sz
  have hfl := flat_at (rel_lens hrel) (i := j / sz) (vs := (f (j / sz)).2) (by simp [hi]) (j % sz) hr
  rw [hdm, hj] at hfl
  obtain ⟨_, _, hcell⟩ := World.cells?_some (hf (j / sz) hi).1
  have hc := hcell (j % sz) hr
  rw [add_none, add_none, ← hfl, Nat.add_assoc, hdm] at hc
  exact hc

theorem BA.of_trod {H : Type} {enc : TypeId × Value → H} {W : World} {base : Nat} {held : Bool} {fuel : Nat} {a : Option Addr} {n c : Nat} {x : DataW H × List MemPlace} {A : Nat → Prop} (hA : ∀ j, j < W.heap.size → A j)
    (h : DataW.trod enc Tryz.prog W base (fun _ => true) held fuel 26 [.slice a n c] = some x) : ∃ l, BA A W a n c l := by
  obtain ⟨l, hb⟩ := Bs.of_trod h
  refine ⟨l, hb, fun hn => ?_⟩
  obtain ⟨b, o, ha, hlt, _⟩ := hb.at hn
  exact ⟨_, ha, hA _ hlt, hlt⟩
/-- A slice in a field. -/
theorem slice_of_trod {H : Type} {enc : TypeId × Value → H} {W : World} {base : Nat} {held : Bool} {fuel : Nat} {t e : TypeId} {v : Value} {x : DataW H × List MemPlace} (ht : Tryz.prog.underlying t = some (.slice e))
    (h : DataW.trod enc Tryz.prog W base (fun _ => true) held fuel t [v] = some x) : ∃ a n c, v = .slice a n c := by
  rcases Deep.open_slice ht h with ⟨hcs, _⟩ | ⟨y, len, cap, m, n', D, Pl, hcs, _⟩
  · simp at hcs
    exact ⟨_, _, _, hcs⟩
  · simp at hcs
    exact ⟨_, _, _, hcs⟩

end Go.Proofs.YtlenmkhmkommcaaGreat

/-
  How the arguments of layer 9's laws are opened: slices of pokes, of acts (eleven cells each), of bools. No condition; no statement of the seat is proved here.
-/
namespace Go.Proofs.YtlenmkhmkommcaaGreat
open Go.RowKit Go.ChangeShapes Go.WideShapes Go.ChangeAt

/-- The bools l in a block of those in A. -/
def BoA (A : Nat → Prop) (w : World) (a : Option Addr) (n c : Nat) (l : List Bool) : Prop := Bo w a n c l ∧ (0 < n → ∃ x, a = some x ∧ A x.block ∧ x.block < w.heap.size)
theorem BoA.keep {A : Nat → Prop} {w w' : World} {a : Option Addr} {n c : Nat} {l : List Bool} (h : BoA A w a n c l) (hs : w.heap.size ≤ w'.heap.size) (hk : ∀ j, j < w.heap.size → A j → w'.heap[j]? = w.heap[j]?) : BoA A w' a n c l := by
  obtain ⟨⟨h1, h2, h3, h4, h5⟩, h6⟩ := h
  refine ⟨⟨h1, h2, h3, h4, fun i hi => ?_⟩, fun hn => ?_⟩
  · obtain ⟨x, hx, hax, hlt⟩ := h6 (by omega)
    obtain ⟨b, o, ha, hc⟩ := h5 i hi
    rw [hx] at ha
    obtain rfl := Option.some.inj ha
    refine ⟨b, o, hx, ?_⟩
    rw [World.cell?_of_block (w := w) (hk b hlt hax)]
    exact hc
  · obtain ⟨x, hx, hax, hlt⟩ := h6 hn
    exact ⟨x, hx, hax, by omega⟩
theorem BoA.kp {A F : Nat → Prop} {w w' : World} {a : Option Addr} {n c : Nat} {l : List Bool} (h : BoA A w a n c l) (k : Kp F w w') (hA : ∀ j, A j → ¬ F j) : BoA A w' a n c l :=
  h.keep k.size fun j hj ha => k.block j hj (hA j ha)
theorem BoA.of_trod {H : Type} {enc : TypeId × Value → H} {W : World} {base : Nat} {held : Bool} {fuel : Nat} {a : Option Addr} {n c : Nat} {x : DataW H × List MemPlace} {A : Nat → Prop} (hA : ∀ j, j < W.heap.size → A j)
    (h : DataW.trod enc Tryz.prog W base (fun _ => true) held fuel 23 [.slice a n c] = some x) : ∃ l, BoA A W a n c l := by
  rcases Deep.open_slice1 Tryz.underlying23 (by kernel_rfl) h with ⟨hcs, _⟩ | ⟨y, len, cap, m, n', V, D, Pl, hcs, _, hl, hm, hmm, _, hrow⟩
  · simp at hcs
    obtain ⟨rfl, rfl, rfl⟩ := hcs
    exact ⟨[], ⟨rfl, Nat.le_refl _, Nat.zero_le _, fun _ => rfl, fun i hi => by omega⟩, fun hn => by omega⟩
  · simp at hcs
    obtain ⟨rfl, rfl, rfl⟩ := hcs
    simp at hmm
    subst hmm
    have hex : ∀ i, i < n → ∃ z : Bool, W.cell? (y.add i) = some (.bool z) := by
      intro i hi
      obtain ⟨h1, h2⟩ := hrow i (by omega)
      obtain ⟨z, e, _⟩ := DataW.trod_bool Tryz.underlying4 h2
      simp at e
      exact ⟨z, by rw [h1, e]⟩
    obtain ⟨f, hf⟩ := Deep.choose_lt hex
    obtain ⟨b, o, s⟩ := y
    refine ⟨(List.range n).map f, ⟨by simp, hl, hm, by simp, fun i hi => ?_⟩, fun hn => ?_⟩
    · have hs : s = none := by simpa [Addr.add] using World.cell?_spot (hf 0 (by omega))
      subst hs
      have hc := hf i hi
      rw [add_none] at hc
      have e : ((List.range n).map f).getD i false = f i := by simp [List.getD_eq_getElem?_getD, hi]
      exact ⟨b, o, rfl, by rw [e]; exact hc⟩
    · have hs : s = none := by simpa [Addr.add] using World.cell?_spot (hf 0 hn)
      subst hs
      have hc := hf 0 hn
      rw [add_none] at hc
      exact ⟨_, rfl, hA _ (lt_of_cell hc), lt_of_cell hc⟩
theorem poke_of_trod {H : Type} {enc : TypeId × Value → H} {W : World} {base : Nat} {held : Bool} {fuel : Nat} {cs : List Value} {x : DataW H × List MemPlace} {A : Nat → Prop} (hA : ∀ j, j < W.heap.size → A j)
    (h : DataW.trod enc Tryz.prog W base (fun _ => true) held fuel 28 cs = some x) : ∃ p, Row (elP A) 5 W p cs := by
  obtain ⟨xs, n, rfl, rfl, hl, hx, hf⟩ := DataW.trod_struct Tryz.underlying28 h
  have c3 : Tryz.prog.cellsOf 3 = 1 := by kernel_rfl
  have c6 : Tryz.prog.cellsOf 26 = 1 := by kernel_rfl
  have cP : Tryz.prog.cellsOf 28 = 5 := by kernel_rfl
  rw [cP] at hl
  obtain ⟨v0, cs0, rfl, hl0⟩ := len_cons hl
  obtain ⟨v1, cs1, rfl, hl1⟩ := len_cons hl0
  obtain ⟨v2, cs2, rfl, hl2⟩ := len_cons hl1
  obtain ⟨v3, cs3, rfl, hl3⟩ := len_cons hl2
  obtain ⟨v4, cs4, rfl, hl4⟩ := len_cons hl3
  obtain rfl := len_zero hl4
  have f0 : DataW.trod enc Tryz.prog W base (fun _ => true) held n 3 (List.take (Tryz.prog.cellsOf 3) (List.drop 0 [v0, v1, v2, v3, v4])) = xs[0]? := hf 0 _ rfl
  have f1 : DataW.trod enc Tryz.prog W base (fun _ => true) held n 3 (List.take (Tryz.prog.cellsOf 3) (List.drop 1 [v0, v1, v2, v3, v4])) = xs[1]? := hf 1 _ rfl
  have f2 : DataW.trod enc Tryz.prog W base (fun _ => true) held n 3 (List.take (Tryz.prog.cellsOf 3) (List.drop 2 [v0, v1, v2, v3, v4])) = xs[2]? := hf 2 _ rfl
  have f3 : DataW.trod enc Tryz.prog W base (fun _ => true) held n 26 (List.take (Tryz.prog.cellsOf 26) (List.drop 3 [v0, v1, v2, v3, v4])) = xs[3]? := hf 3 _ rfl
  have f4 : DataW.trod enc Tryz.prog W base (fun _ => true) held n 3 (List.take (Tryz.prog.cellsOf 3) (List.drop 4 [v0, v1, v2, v3, v4])) = xs[4]? := hf 4 _ rfl
  have hx5 : xs.length = 5 := hx
  rw [c3] at f0 f1 f2 f4
  rw [c6] at f3
  rw [List.getElem?_eq_getElem (by omega)] at f0 f1 f2 f3 f4
  obtain ⟨p, e0, _, w0⟩ := DataW.trod_int Tryz.underlying3 f0
  obtain ⟨q, e1, _, w1⟩ := DataW.trod_int Tryz.underlying3 f1
  obtain ⟨r, e2, _, w2⟩ := DataW.trod_int Tryz.underlying3 f2
  obtain ⟨z, e4, _, w4⟩ := DataW.trod_int Tryz.underlying3 f4
  simp only [List.drop_succ_cons, List.drop_zero, List.take_succ_cons, List.take_zero] at f3
  obtain ⟨a, m, c, rfl⟩ := slice_of_trod Tryz.underlying26 f3
  obtain ⟨l, hb⟩ := BA.of_trod hA f3
  simp at e0 e1 e2 e4
  subst e0 e1 e2 e4
  refine ⟨⟨p, q, r, l, z⟩, rfl, ?_, a, m, c, rfl, hb, bounds_i64 w0, bounds_i64 w1, bounds_i64 w2, bounds_i64 w4⟩
  intro u hu
  simp only [List.mem_cons, List.not_mem_nil, or_false] at hu
  rcases hu with rfl | rfl | rfl | rfl | rfl <;> rfl
theorem Pokes.of_trod {H : Type} {enc : TypeId × Value → H} {W : World} {base : Nat} {held : Bool} {fuel : Nat} {a : Option Addr} {n c : Nat} {x : DataW H × List MemPlace} {A : Nat → Prop} (hA : ∀ j, j < W.heap.size → A j)
    (h : DataW.trod enc Tryz.prog W base (fun _ => true) held fuel 24 [.slice a n c] = some x) : ∃ l, Sl (elP A) 5 A W a n c l := by
  rcases Deep.open_slice Tryz.underlying24 h with ⟨hcs, _⟩ | ⟨y, len, cap, m, n', D, Pl, hcs, _, hl, hm, hmm, _, hrow⟩
  · simp at hcs
    obtain ⟨rfl, rfl, rfl⟩ := hcs
    exact ⟨[], Sl.nil _ _ _ _⟩
  · simp at hcs
    obtain ⟨rfl, rfl, rfl⟩ := hcs
    have cP : Tryz.prog.cellsOf 28 = 5 := by kernel_rfl
    rw [cP] at hrow
    simp at hmm
    subst hmm
    refine Sl.of_rows (⟨0, 0, 0, [], 0⟩ : Pok) (base := base) (by omega) hl hm hA fun i hi => ?_
    obtain ⟨cs', h1, h2⟩ := hrow i (by omega)
    exact ⟨cs', h1, poke_of_trod hA h2⟩

/-- An act. -/
structure OpS where
  kind : Int
  at_ : Int
  c : UInt8
  x : Pok
  n : Int
  done : Bool
  keep : List Bool
def oc (o : OpS) (p : Option Addr) (m q : Nat) (a : Option Addr) (k c : Nat) : List Value :=
  [.int .i64 o.kind, .int .i64 o.at_, .int .u8 o.c.toNat, .int .i64 o.x.on, .int .i64 o.x.at_, .int .i64 o.x.kind, .slice p m q, .int .i64 o.x.num, .int .i64 o.n, .bool o.done, .slice a k c]
def elO (A : Nat → Prop) (w : World) (o : OpS) (vs : List Value) : Prop :=
  ∃ p m q a k c, vs = oc o p m q a k c ∧ BA A w p m q o.x.bytes ∧ BoA A w a k c o.keep ∧ i64 o.kind ∧ i64 o.at_ ∧ i64 o.x.on ∧ i64 o.x.at_ ∧ i64 o.x.kind ∧ i64 o.x.num ∧ i64 o.n
theorem elO.keep {A : Nat → Prop} {w w' : World} {o : OpS} {vs : List Value} (h : elO A w o vs) (hs : w.heap.size ≤ w'.heap.size) (hk : ∀ j, j < w.heap.size → A j → w'.heap[j]? = w.heap[j]?) : elO A w' o vs := by
  obtain ⟨p, m, q, a, k, c, e, h1, h2, r⟩ := h
  exact ⟨p, m, q, a, k, c, e, h1.keep hs hk, h2.keep hs hk, r⟩
end Go.Proofs.YtlenmkhmkommcaaGreat

/-
  What layer 9's statements do themselves: Fill (a block of like bytes) and light (how much is waited for). Conditions: none.
-/
namespace Go.Proofs.YtlenmkhmkommcaaGreat
open Go.RowKit

/-- A block of like bytes. -/
def like (c : UInt8) : List UInt8 := List.replicate 512 c
theorem like_length (c : UInt8) : (like c).length = 512 := List.length_replicate
theorem like_get {c : UInt8} {k : Nat} (h : k < 512) : (like c).getD k 0 = c := by rw [List.getD_eq_getElem?_getD, like, List.getElem?_replicate, if_pos h]; rfl
/-- What Fill answers. -/
def Fills (w : World) (l : List UInt8) (e : Ending) (w' : World) : Prop := ∃ g, e = .returned (.slice (some ⟨g, 0, none⟩) 512 512) ∧ w.heap.size ≤ g ∧ B5 (fun j => w.heap.size ≤ j) w' (some ⟨g, 0, none⟩) 512 512 l ∧ Below w.heap.size w w'

set_option maxRecDepth 100000 in
set_option maxHeartbeats 1000000 in
theorem lFill (w : World) (y : UInt8) : Calls Tryz.prog 35 #[.int .u8 (y.toNat : Int)] w (Fills w (like y)) := by
  have HL : Hid ((like y).length = 512) := like_length y
  have HG : Hid (∀ k, k < 512 → (like y).getD k 0 = y) := fun k hk => like_get hk
  obtain ⟨b, hb0⟩ : ∃ b, b = like y := ⟨_, rfl⟩
  rw [← hb0] at HL HG ⊢
  clear hb0
  go_enter Tryz.func35, Tryz.ntmps35
  go_wp2_with (at_make; go_must (refine wpList_mkn _ rfl _ _ rfl w.heap.size 512 512 rfl rfl rfl (by omega) (Nat.le_refl _) ?_); intro g w1 hg hgl hown hbel)
  go_loopw [4] (fun i wr => ∃ k : Nat, k ≤ 512 ∧ i = .int .i64 (k : Int) ∧ Own wr w.heap.size (.slice (some ⟨g, 0, none⟩) 512 512) (b.take k ++ List.replicate (512 - k) 0) ∧ Below w.heap.size w wr) (fun i _ => 512 - (intOf i).toNat)
  case atStart => exact ⟨0, by omega, rfl, by simpa using hown, hbel⟩
  case round =>
    clear hown hbel
    obtain ⟨k, hk, rfl, ho, hb⟩ := hrel
    by_cases h1 : k < 512
    · have i1 : (k : Int) < 512 := by omega
      have hlen : (b.take k ++ List.replicate (512 - k) 0).length = 512 := by have := HL.out; simp; omega
      obtain ⟨u, hu⟩ := ho.cell hlen k h1
      have hfz := ho.free hlen k
      have hst := ho.set hlen k y
      rw [show y = b.getD k 0 from (HG.out k h1).symm, fit_set h1 (by rw [HL.out]; exact h1), HG.out k h1] at hst
      go_wp2_with fail
      go_roundw
      case rel => exact ⟨k + 1, by omega, by go_num, hst, hb.setCell (p := ⟨g, k, none⟩) hg _⟩
      case measure => simp [intOf]; omega
    · have i1 : ¬ (k : Int) < 512 := by omega
      have hk' : k = 512 := by omega
      subst hk'
      go_wp2_with fail
      go_ret
      have e : b.take 512 ++ List.replicate (512 - 512) 0 = b := by
        have := HL.out
        rw [List.take_of_length_le (by omega)]
        simp
      rw [e] at ho
      exact ⟨g, rfl, hg, ho.b5 (A := fun j => w.heap.size ≤ j) (fun j hj _ => hj), hb⟩
/-- All but the first byte. -/
theorem B5.tail {A : Nat → Prop} {w : World} {g : Nat} {l : List UInt8} (h : B5 A w (some ⟨g, 0, none⟩) 512 512 l) : B5 A w (some ⟨g, 1, none⟩) 511 511 l.tail := by
  obtain ⟨⟨h1, h2, h3, h4, h5⟩, h6⟩ := h
  refine ⟨⟨by simp [h1], Nat.le_refl _, by unfold maxLen; omega, by simp, fun i hi => ?_⟩, fun _ => ?_⟩
  · obtain ⟨b, o, e, hc⟩ := h5 (i + 1) (by omega)
    simp only [Option.some.injEq, Addr.mk.injEq] at e
    obtain ⟨rfl, rfl, _⟩ := e
    refine ⟨g, 1, rfl, ?_⟩
    rw [show 0 + (i + 1) = 1 + i from by omega] at hc
    rw [hc]
    cases l with
    | nil => simp at h1
    | cons a l => rfl
  · obtain ⟨x, cur, f, e, ha, hb⟩ := h6 (by omega)
    obtain rfl := Option.some.inj e
    exact ⟨⟨g, 1, none⟩, cur, f, rfl, ha, hb⟩

/-- The i-th act. -/
theorem Sl.act {A : Nat → Prop} {w : World} {a : Option Addr} {n c : Nat} {l : List OpS} (h : Sl (elO A) 11 A w a n c l) {s : Nat} {x : OpS} (hx : l[s]? = some x) :
    ∃ b o p m q ka kn kc, a = some ⟨b, o, none⟩ ∧ b < w.heap.size ∧ w.rangeAt b (o + s * 11) (oc x p m q ka kn kc) ∧ BA A w p m q x.x.bytes ∧ BoA A w ka kn kc x.keep ∧ i64 x.kind ∧ i64 x.at_ ∧ i64 x.x.on ∧ i64 x.x.at_ ∧ i64 x.x.kind ∧ i64 x.x.num ∧ i64 x.n := by
  obtain ⟨b, o, vs, ha, hlt, hrg, hl, p, m, q, ka, kn, kc, rfl, r⟩ := h.at hx
  exact ⟨b, o, p, m, q, ka, kn, kc, ha, hlt, hrg, r⟩
/-- Acts that are waited for. -/
def OpS.light (o : OpS) : Prop := o.keep.length ≤ 60 ∧ o.x.bytes.length ≤ 1000
/-- What light answers. -/
def Lights (w : World) (n : Nat) (l : List OpS) (e : Ending) (w' : World) : Prop := ∃ v, e = .returned (.bool v) ∧ (v = true → n ≤ 40 ∧ ∀ o ∈ l, o.light) ∧ ∃ k, w' = w.drewN k

end Go.Proofs.YtlenmkhmkommcaaGreat
