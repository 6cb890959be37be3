/-
  3 texts in one. No statement of the seat is proved here.
-/
import Derived.Test.YtfdilgnlfademaaG7

/-
  The contract of layer 9's reference's Crash. Conditions: lists of at most a million.
-/
namespace Go.Proofs.Ytfdilgnlfademaa
open Go.RowKit
set_option linter.unusedVariables false

/-- What is kept of changes. -/
def kept : List Chg → List Bool → List Chg
  | c :: l, true :: b => c :: kept l b
  | _ :: l, false :: b => kept l b
  | _, _ => []
theorem kept_snoc : ∀ (l : List Chg) (b : List Bool) (k : Nat) (c : Chg) (x : Bool), l[k]? = some c → b[k]? = some x → kept (l.take (k + 1)) (b.take (k + 1)) = kept (l.take k) (b.take k) ++ (if x then [c] else [])
  | [], _, _, _, _, h, _ => by simp at h
  | _ :: _, [], _, _, _, _, h => by simp at h
  | a :: l, y :: b, 0, c, x, h, h' => by
    simp at h h'
    subst h h'
    cases y <;> simp [kept]
  | a :: l, y :: b, k + 1, c, x, h, h' => by
    have := kept_snoc l b k c x (by simpa using h) (by simpa using h')
    cases y
    · simpa [kept] using this
    · simp only [List.take_succ_cons, kept]
      rw [this]
      rfl
theorem kept_end : ∀ (l : List Chg) (b : List Bool) (k : Nat), k ≤ l.length → k ≤ b.length → (k = l.length ∨ k = b.length) → kept (l.take k) (b.take k) = kept l b
  | [], b, k, h, _, _ => by
    obtain rfl : k = 0 := by simpa using h
    cases b <;> rfl
  | a :: l, [], k, _, h, _ => by
    obtain rfl : k = 0 := by simpa using h
    rfl
  | a :: l, y :: b, 0, _, _, h => by simp at h
  | a :: l, y :: b, k + 1, h1, h2, h3 => by
    have := kept_end l b k (by simpa using h1) (by simpa using h2) (by simpa using h3)
    cases y
    · simpa [kept] using this
    · simp only [List.take_succ_cons, kept]
      rw [this]
theorem kept_len : ∀ (l : List Chg) (b : List Bool), (kept l b).length ≤ l.length
  | [], b => by cases b <;> simp [kept]
  | a :: l, [] => by simp [kept]
  | a :: l, true :: b => by have := kept_len l b; simp [kept]; omega
  | a :: l, false :: b => by have := kept_len l b; simp [kept]; omega
def DskS.crash (D : DskS) (b : List Bool) : DskS := { D.settles (kept D.loose b) with loose := [] }

set_option maxRecDepth 100000 in
set_option maxHeartbeats 8000000 in
theorem rCrash (w : World) {A : Nat → Prop} {D : DskS} {q : Quad} (h : RD A w D q) (hA : ∀ j, w.heap.size ≤ j → A j) {pa : Option Addr} {m c : Nat} {b : List Bool} (hb : Bo w pa m c b) (hz : D.safe.length + D.loose.length + 1 ≤ 1000000) :
    Calls Try.prog 39 #[dv D q, .slice pa m c] w fun e w' => ∃ q', e = .returned (dv (D.crash b) q') ∧ RD A w' (D.crash b) q' ∧ Below w.heap.size w w' := by
  obtain ⟨R, hR⟩ : ∃ R, R = D.crash b := ⟨_, rfl⟩
  rw [← hR]
  have HR : Hid (R = D.crash b) := hR
  clear hR
  unfold DskS.crash at HR
  obtain ⟨B, hB'⟩ : ∃ B : Nat → Prop, B = fun j => A j ∧ ¬ (w.heap.size ≤ j ∧ j ≤ w.heap.size + 1 + 1) := ⟨_, rfl⟩
  have hm : Hid (∀ j, B j → A j) := fun j hj => by rw [hB'] at hj; exact hj.1
  have hn : Hid (∀ j, B j → ¬ (w.heap.size ≤ j ∧ j ≤ w.heap.size + 1 + 1)) := fun j hj => by rw [hB'] at hj; exact hj.2
  have hnew : Hid (∀ j, w.heap.size + 1 + 1 < j → B j) := fun j hj => by rw [hB']; exact ⟨hA j (by omega), by omega⟩
  have hrB : RD B w D q := h.mono fun j hj ha => by rw [hB']; exact ⟨ha, by omega⟩
  clear hB'
  have HBL : Hid (b.length = m) := hb.len
  have HB : Hid (Bo w pa m c b) := hb
  have hmx : m ≤ 9223372036854775807 := by have h1 := hb.2.1; have h2 := hb.2.2.1; unfold maxLen at h2; omega
  have HL1 : Hid (D.loose.length = q.ln) := h.loose.len
  have hln : q.ln ≤ 1000000 := by have := HL1.out; omega
  have HSL : Hid (∀ u, Below w.heap.size w u → Sl (elC B) 2 B u q.la q.ln q.lc D.loose) := fun u hu => (hrB.below hu).loose
  obtain ⟨dk, hdk⟩ : ∃ dk : Nat → DskS, dk = fun k => D.settles (kept (D.loose.take k) (b.take k)) := ⟨_, rfl⟩
  have HD0 : Hid (dk 0 = D) := by rw [hdk]; rfl
  have HDT : Hid (∀ k y, D.loose[k]? = some y → b[k]? = some true → dk (k + 1) = (dk k).settle y.1 y.2) := fun k y hy hx => by rw [hdk]; dsimp only; rw [kept_snoc _ _ k y true hy hx]; exact settles_snoc D _ y
  have HDF : Hid (∀ k y, D.loose[k]? = some y → b[k]? = some false → dk (k + 1) = dk k) := fun k y hy hx => by rw [hdk]; dsimp only; rw [kept_snoc _ _ k y false hy hx]; simp
  have HDL : Hid (∀ k, (dk k).safe.length + 1 ≤ 1000000) := fun k => by rw [hdk]; dsimp only; have h1 := (settles_len (kept (D.loose.take k) (b.take k)) D).1; have h2 := kept_len (D.loose.take k) (b.take k); have h3 := List.length_take_le' k D.loose; omega
  have HDE : Hid (∀ k, k ≤ q.ln → k ≤ m → (k = q.ln ∨ k = m) → dk k = D.settles (kept D.loose b)) := fun k h1 h2 h3 => by rw [hdk]; dsimp only; rw [kept_end D.loose b k (by rw [HL1.out]; exact h1) (by rw [HBL.out]; exact h2) (by rw [HL1.out, HBL.out]; exact h3)]
  have b1 : Blk (((w.alloc (.cells #[.int .i64 (D.p.steps : Int), .int .i64 D.p.fuse, .bool D.p.done, .bool D.p.down, .int .i64 D.n, .slice q.sa q.sn q.sc, .slice q.la q.ln q.lc, .slice q.ta q.tn q.tc, .slice q.pa q.pn q.pq, .int .i64 (D.steps : Int)] 40)).alloc (.cells #[.int .i64 0, .int .i64 0, .bool false, .bool false, .int .i64 0, .slice none 0 0, .slice none 0 0, .slice none 0 0, .slice none 0 0, .int .i64 0] 40)).alloc (.cells #[.int .i64 (D.p.steps : Int), .int .i64 D.p.fuse, .bool D.p.done, .bool D.p.down, .int .i64 D.n, .slice q.sa q.sn q.sc, .slice q.la q.ln q.lc, .slice q.ta q.tn q.tc, .slice q.pa q.pn q.pq, .int .i64 (D.steps : Int)] 40)) w.heap.size (dc D q) 40 := ((Blk.newAt w _ _ w.heap.size rfl _ rfl).old _).old _
  have b2 : Blk (((w.alloc (.cells #[.int .i64 (D.p.steps : Int), .int .i64 D.p.fuse, .bool D.p.done, .bool D.p.down, .int .i64 D.n, .slice q.sa q.sn q.sc, .slice q.la q.ln q.lc, .slice q.ta q.tn q.tc, .slice q.pa q.pn q.pq, .int .i64 (D.steps : Int)] 40)).alloc (.cells #[.int .i64 0, .int .i64 0, .bool false, .bool false, .int .i64 0, .slice none 0 0, .slice none 0 0, .slice none 0 0, .slice none 0 0, .int .i64 0] 40)).alloc (.cells #[.int .i64 (D.p.steps : Int), .int .i64 D.p.fuse, .bool D.p.done, .bool D.p.down, .int .i64 D.n, .slice q.sa q.sn q.sc, .slice q.la q.ln q.lc, .slice q.ta q.tn q.tc, .slice q.pa q.pn q.pq, .int .i64 (D.steps : Int)] 40)) (w.heap.size + 1) z40 40 := (Blk.newAt (w.alloc _) _ _ (w.heap.size + 1) (by simp) _ rfl).old _
  have b5 : Blk (((w.alloc (.cells #[.int .i64 (D.p.steps : Int), .int .i64 D.p.fuse, .bool D.p.done, .bool D.p.down, .int .i64 D.n, .slice q.sa q.sn q.sc, .slice q.la q.ln q.lc, .slice q.ta q.tn q.tc, .slice q.pa q.pn q.pq, .int .i64 (D.steps : Int)] 40)).alloc (.cells #[.int .i64 0, .int .i64 0, .bool false, .bool false, .int .i64 0, .slice none 0 0, .slice none 0 0, .slice none 0 0, .slice none 0 0, .int .i64 0] 40)).alloc (.cells #[.int .i64 (D.p.steps : Int), .int .i64 D.p.fuse, .bool D.p.done, .bool D.p.down, .int .i64 D.n, .slice q.sa q.sn q.sc, .slice q.la q.ln q.lc, .slice q.ta q.tn q.tc, .slice q.pa q.pn q.pq, .int .i64 (D.steps : Int)] 40)) (w.heap.size + 1 + 1) (dc D q) 40 := Blk.newAt ((w.alloc _).alloc _) _ _ (w.heap.size + 1 + 1) (by simp) _ rfl
  have kb : Below w.heap.size w (((w.alloc (.cells #[.int .i64 (D.p.steps : Int), .int .i64 D.p.fuse, .bool D.p.done, .bool D.p.down, .int .i64 D.n, .slice q.sa q.sn q.sc, .slice q.la q.ln q.lc, .slice q.ta q.tn q.tc, .slice q.pa q.pn q.pq, .int .i64 (D.steps : Int)] 40)).alloc (.cells #[.int .i64 0, .int .i64 0, .bool false, .bool false, .int .i64 0, .slice none 0 0, .slice none 0 0, .slice none 0 0, .slice none 0 0, .int .i64 0] 40)).alloc (.cells #[.int .i64 (D.p.steps : Int), .int .i64 D.p.fuse, .bool D.p.done, .bool D.p.down, .int .i64 D.n, .slice q.sa q.sn q.sc, .slice q.la q.ln q.lc, .slice q.ta q.tn q.tc, .slice q.pa q.pn q.pq, .int .i64 (D.steps : Int)] 40)) := below3 _ _ _ _
  have hdv : dv D q = .agg #[.int .i64 (D.p.steps : Int), .int .i64 D.p.fuse, .bool D.p.done, .bool D.p.down, .int .i64 D.n, .slice q.sa q.sn q.sc, .slice q.la q.ln q.lc, .slice q.ta q.tn q.tc, .slice q.pa q.pn q.pq, .int .i64 (D.steps : Int)] := rfl
  rw [hdv]
  clear hdk h hb hdv
  go_enter Try.func39, Try.ntmps39
  go_wp2_with fail
  have hr0 := hrB.below kb
  generalize (((w.alloc (.cells #[.int .i64 (D.p.steps : Int), .int .i64 D.p.fuse, .bool D.p.done, .bool D.p.down, .int .i64 D.n, .slice q.sa q.sn q.sc, .slice q.la q.ln q.lc, .slice q.ta q.tn q.tc, .slice q.pa q.pn q.pq, .int .i64 (D.steps : Int)] 40)).alloc (.cells #[.int .i64 0, .int .i64 0, .bool false, .bool false, .int .i64 0, .slice none 0 0, .slice none 0 0, .slice none 0 0, .slice none 0 0, .int .i64 0] 40)).alloc (.cells #[.int .i64 (D.p.steps : Int), .int .i64 D.p.fuse, .bool D.p.done, .bool D.p.down, .int .i64 D.n, .slice q.sa q.sn q.sc, .slice q.la q.ln q.lc, .slice q.ta q.tn q.tc, .slice q.pa q.pn q.pq, .int .i64 (D.steps : Int)] 40)) = W0 at *
  clear hrB
  go_loopw [6] (fun i wr => ∃ (k : Nat) (qk : Quad), k ≤ q.ln ∧ k ≤ m ∧ i = .int .i64 (k : Int) ∧ Blk wr w.heap.size (dc D q) 40 ∧ Blk wr (w.heap.size + 1) z40 40 ∧ Blk wr (w.heap.size + 1 + 1) (dc (dk k) qk) 40 ∧ RD B wr (dk k) qk ∧ Below w.heap.size w wr) (fun i _ => q.ln - (intOf i).toNat)
  case atStart => exact ⟨0, q, Nat.zero_le _, Nat.zero_le _, rfl, b1, b2, by rw [HD0.out]; exact b5, by rw [HD0.out]; exact hr0, kb⟩
  case round =>
    clear b1 b2 b5 kb hr0
    obtain ⟨k, qk, hk, hkm, rfl, b1, b2, b5, hr, kw⟩ := hrel
    have l1 := b1.lt
    have l5 := b5.lt
    have f6 : wr.cell? ⟨w.heap.size, 6, none⟩ = some (.slice q.la q.ln q.lc) := b1.cell 6
    by_cases hgo : k < q.ln ∧ k < m
    · have i0 : (k : Int) < (q.ln : Int) := by omega
      have i1 : (k : Int) < (m : Int) := by omega
      have i3 : (0 : Int) ≤ (k : Int) := by omega
      obtain ⟨y, hy⟩ : ∃ y, D.loose[k]? = some y := ⟨_, List.getElem?_eq_getElem (by rw [HL1.out]; exact hgo.1)⟩
      obtain ⟨x, hx⟩ : ∃ x, b[k]? = some x := ⟨_, List.getElem?_eq_getElem (by rw [HBL.out]; exact hgo.2)⟩
      obtain ⟨xb, xo, hpa, hxl, hxc⟩ := HB.out.at (by omega)
      have cb : wr.cell? ⟨xb, xo + k, none⟩ = some (.bool x) := by rw [kw.cell (p := ⟨xb, xo + k, none⟩) hxl]; have := hxc k hgo.2; rw [this]; congr 2; rw [List.getD_eq_getElem?_getD, hx]; rfl
      subst hpa
      cases x with
      | true =>
        obtain ⟨eb, eo, ep, em, eq, hla, hlb, cx, cy, hB, hyi⟩ := (HSL.out wr kw).change hy
        have HSS : Hid (dk (k + 1) = (dk k).settle y.1 y.2) := HDT.out k y hy hx
        obtain ⟨ya, yb⟩ := y
        dsimp only at cx cy hB hyi HSS
        have F6 : ∀ u, Grows wr u → u.cell? ⟨w.heap.size, 6, none⟩ = some (.slice (some ⟨eb, eo, none⟩) q.ln q.lc) := fun u h => by have := (b1.below h b1.lt).cell 6; rw [this]; show some (Value.slice q.la q.ln q.lc) = _; rw [hla]
        have F1 : ∀ u, Grows wr u → u.cell? ⟨eb, eo + k * 2, none⟩ = some (.int .i64 ya) := fun u h => (Below.cell h (p := ⟨eb, eo + k * 2, none⟩) hlb).trans cx
        have F2 : ∀ u, Grows wr u → u.cell? ⟨eb, eo + k * 2 + 1, none⟩ = some (.slice ep em eq) := fun u h => (Below.cell h (p := ⟨eb, eo + k * 2 + 1, none⟩) hlb).trans cy
        go_wp2_with fail
        refine regionE 14 (S := Grows wr) (by kernel_rfl) (Below.refl _ wr).drew ?_
        refine takeT 0 (some 25) (dv (dk k) qk) rfl rfl (by kernel_rfl) (fun _ _ _ h => h) (ans_row 40 (.tmp 5) _ 10 rfl (by rfl) (w.heap.size + 1 + 1) 0 rfl (dc (dk k) qk) (fun w h => (b5.below h b5.lt).whole) Try.underlying40 rfl rfl size40) ?_
        simp only [Act.put, List.setIfInBounds_toArray, List.set_cons_zero, List.set_cons_succ]
        refine takeT 1 (some 26) (.pointer (some ⟨w.heap.size, 6, none⟩)) rfl rfl (by kernel_rfl) (fun _ _ _ h => h) (ans_plain (by rfl) (fun w _ => by unfold execOp; go_simp)) ?_
        simp only [Act.put, List.setIfInBounds_toArray, List.set_cons_zero, List.set_cons_succ]
        refine takeT 2 (some 27) (.slice (some ⟨eb, eo, none⟩) q.ln q.lc) rfl rfl (by kernel_rfl) (fun _ _ _ h => h) (ans_plain (by rfl) (fun w h => by have hc := F6 w h; unfold execOp; go_simp)) ?_
        simp only [Act.put, List.setIfInBounds_toArray, List.set_cons_zero, List.set_cons_succ]
        refine takeT 3 (some 28) (.int .i64 (k : Int)) rfl rfl (by kernel_rfl) (fun _ _ _ h => h) (ans_plain (by rfl) (fun w _ => rfl)) ?_
        simp only [Act.put, List.setIfInBounds_toArray, List.set_cons_zero, List.set_cons_succ]
        refine takeT 4 (some 29) (.pointer (some ⟨eb, eo + k * 2, none⟩)) rfl rfl (by kernel_rfl) (fun _ _ _ h => h) (ans_plain (by rfl) (fun w _ => by unfold execOp; go_simp)) ?_
        simp only [Act.put, List.setIfInBounds_toArray, List.set_cons_zero, List.set_cons_succ]
        refine takeT 5 (some 30) (.pointer (some ⟨eb, eo + k * 2, none⟩)) rfl rfl (by kernel_rfl) (fun _ _ _ h => h) (ans_plain (by rfl) (fun w _ => by unfold execOp; go_simp)) ?_
        simp only [Act.put, List.setIfInBounds_toArray, List.set_cons_zero, List.set_cons_succ]
        refine takeT 6 (some 31) (.int .i64 ya) rfl rfl (by kernel_rfl) (fun _ _ _ h => h) (ans_plain (by rfl) (fun w h => by have hc := F1 w h; unfold execOp; go_simp)) ?_
        simp only [Act.put, List.setIfInBounds_toArray, List.set_cons_zero, List.set_cons_succ]
        refine takeT 7 (some 32) (.pointer (some ⟨w.heap.size, 6, none⟩)) rfl rfl (by kernel_rfl) (fun _ _ _ h => h) (ans_plain (by rfl) (fun w _ => by unfold execOp; go_simp)) ?_
        simp only [Act.put, List.setIfInBounds_toArray, List.set_cons_zero, List.set_cons_succ]
        refine takeT 8 (some 33) (.slice (some ⟨eb, eo, none⟩) q.ln q.lc) rfl rfl (by kernel_rfl) (fun _ _ _ h => h) (ans_plain (by rfl) (fun w h => by have hc := F6 w h; unfold execOp; go_simp)) ?_
        simp only [Act.put, List.setIfInBounds_toArray, List.set_cons_zero, List.set_cons_succ]
        refine takeT 9 (some 34) (.int .i64 (k : Int)) rfl rfl (by kernel_rfl) (fun _ _ _ h => h) (ans_plain (by rfl) (fun w _ => rfl)) ?_
        simp only [Act.put, List.setIfInBounds_toArray, List.set_cons_zero, List.set_cons_succ]
        refine takeT 10 (some 35) (.pointer (some ⟨eb, eo + k * 2, none⟩)) rfl rfl (by kernel_rfl) (fun _ _ _ h => h) (ans_plain (by rfl) (fun w _ => by unfold execOp; go_simp)) ?_
        simp only [Act.put, List.setIfInBounds_toArray, List.set_cons_zero, List.set_cons_succ]
        refine takeT 11 (some 36) (.pointer (some ⟨eb, eo + k * 2 + 1, none⟩)) rfl rfl (by kernel_rfl) (fun _ _ _ h => h) (ans_plain (by rfl) (fun w _ => by unfold execOp; go_simp)) ?_
        simp only [Act.put, List.setIfInBounds_toArray, List.set_cons_zero, List.set_cons_succ]
        refine takeT 12 (some 37) (.slice ep em eq) rfl rfl (by kernel_rfl) (fun _ _ _ h => h) (ans_plain (by rfl) (fun w h => by have hc := F2 w h; unfold execOp; go_simp)) ?_
        simp only [Act.put, List.setIfInBounds_toArray, List.set_cons_zero, List.set_cons_succ]
        refine callE 13 (some 38) 53 #[.tmp 25, .tmp 31, .tmp 37] #[40, 3, 26] #[dv (dk k) qk, .int .i64 ya, .slice ep em eq] rfl rfl rfl (by rfl) (by rfl) (by kernel_rfl) (by kernel_rfl) Try.call53 fun u1 hg1 hs1 => ?_
        have hs7 : w.heap.size + 1 + 1 < u1.heap.size := (b5.below hs1 b5.lt).lt
        refine (rSettle u1 (hr.below hs1) (fun j hj => hnew.out j (by omega)) ya hyi (hB.below hs1).bs (HDL.out k)).mono ?_
        rintro e u2 ⟨q2, rfl, hr2, hb2⟩
        have hs2 : Grows wr u2 := Grows.trans hs1 hb2
        refine ⟨_, rfl, hs2, ?_⟩
        simp only [Act.put, List.setIfInBounds_toArray, List.set_cons_zero, List.set_cons_succ]
        rw [← HSS.out] at hr2 ⊢
        refine lastE (by kernel_rfl) (by kernel_rfl) (by kernel_rfl) (by kernel_rfl) fun u3 hg3 hs3 => ?_
        refine opStR 14 40 (.tmp 5) (.tmp 38) 10 rfl rfl rfl rfl (w.heap.size + 1 + 1) (dc (dk k) qk) (dc (dk (k + 1)) q2) _ (b5.below hs3 b5.lt) rfl rfl (dc_one _ _) size40 rfl rfl fun u4 b4 q4 u5 hg5 => ?_
        have r5 := ((hr2.below hg3).kp q4 (fun j hj e => hn.out j hj (by omega))).below hg5
        have b5z := b4.below hg5 b4.lt
        have b2y := q4.blk (b2.below hs3 b2.lt) (by omega)
        have b2z := b2y.below hg5 b2y.lt
        have b1y := q4.blk (b1.below hs3 b1.lt) (by omega)
        have b1z := b1y.below hg5 b1y.lt
        have k3 := kw.trans (Below.mono hs3 kw.size)
        have k4 := below_kp k3 q4 k3.size (fun j hj e => by omega)
        have k5 := k4.trans (Below.mono hg5 k4.size)
        clear k3 k4 b2y b1y q4 b4 hg3 hs3 hs2 hb2 hr2 hs1 hg1 hs7 F1 F2 F6 hg5 b1 b2 b5 hr kw cx cy hB hlb
        go_wp2_with fail
        go_roundw
        case rel => exact ⟨k + 1, q2, by omega, by omega, by go_num, b1z, b2z, b5z, r5, k5⟩
        case measure => simp [intOf]; omega
      | false =>
        have HSS : Hid (dk (k + 1) = dk k) := HDF.out k y hy hx
        go_wp2_with fail
        go_roundw
        case rel => exact ⟨k + 1, qk, by omega, by omega, by go_num, b1, b2, by rw [HSS.out]; exact b5, by rw [HSS.out]; exact hr, kw⟩
        case measure => simp [intOf]; omega
    · have HE : Hid (dk k = D.settles (kept D.loose b)) := HDE.out k hk hkm (by omega)
      obtain ⟨V, hV⟩ : ∃ V, V = wr.setCell ⟨w.heap.size + 1 + 1, 6, none⟩ (.slice none 0 0) := ⟨_, rfl⟩
      obtain ⟨qn, hqn⟩ : ∃ qn : Quad, qn = ⟨qk.sa, qk.sn, qk.sc, none, 0, 0, qk.ta, qk.tn, qk.tc, qk.pa, qk.pn, qk.pq⟩ := ⟨_, rfl⟩
      rw [← HE.out] at HR
      have bV : Blk V (w.heap.size + 1 + 1) (dc R qn) 40 := by rw [hV, HR.out, hqn]; exact b5.setC 6 _
      have kpV : Kp (fun j => j = w.heap.size + 1 + 1) wr V := by rw [hV]; exact Kp.of_grown (but_set _ _ _ _)
      have b2V := kpV.blk b2 (by omega)
      have kV := below_kp kw kpV kw.size (fun j hj e => by omega)
      have rV : RD B V R qn := (by have h1 := hr.kp kpV (fun j hj e => hn.out j hj (by omega)); rw [HR.out, hqn]; exact ⟨h1.safe, Sl.nil _ _ _ _, h1.seen, h1.plot⟩)
      have g6 : wr.cell? ⟨w.heap.size + 1 + 1, 6, none⟩ = some (.slice qk.la qk.ln qk.lc) := b5.cell 6
      have z6 := b5.free 6
      have WV : Hid (V = wr.setCell ⟨w.heap.size + 1 + 1, 6, none⟩ (.slice none 0 0)) := hV
      have bV2 : Blk (wr.setCell ⟨w.heap.size + 1 + 1, 6, none⟩ (.slice none 0 0)) (w.heap.size + 1 + 1) (dc R qn) 40 := by rw [← WV.out]; exact bV
      have b2V2 : Blk (wr.setCell ⟨w.heap.size + 1 + 1, 6, none⟩ (.slice none 0 0)) (w.heap.size + 1) z40 40 := by rw [← WV.out]; exact b2V
      clear hV hqn kpV b1 b2 b5 hr kw
      by_cases hk2 : k < q.ln
      · have i0 : (k : Int) < (q.ln : Int) := by omega
        have i1 : ¬ (k : Int) < (m : Int) := by omega
        go_wp2_with (first
          | ((with_reducible refine at_ld 40 ?_); (refine ld 40 (.tmp 5) 10 size40 _ Try.underlying40 rfl (w.heap.size + 1 + 1) 0 (dc R qn) rfl bV2.whole rfl ?_))
          | ((with_reducible refine at_st 40 ?_); (refine st' 40 (.tmp 4) (.tmp 40) 10 size40 (w.heap.size + 1) 0 (dc R qn) rfl (dc_one _ _) (b2V2.there 0 10 (by simp [z40])) rfl rfl ?_); intro w8 hw8))
        rw [← WV.out] at hw8
        have hg8 := but_cells (w.heap.size + 1) (dc R qn) V 0
        rw [← hw8] at hg8
        have b8 : Blk w8 (w.heap.size + 1) (dc R qn) 40 := by rw [hw8]; exact b2V.setsW _ rfl
        have k8 : Below w.heap.size w w8 := by rw [hw8]; exact below_sets (by omega) _ kV 0
        have r8 := (rV.keep hg8.size (fun j hj hb => hg8.block j hj (fun e => hn.out j hb (by have := Option.some.inj e; omega)))).mono (fun j _ hb => hm.out j hb)
        first | rw [← WV.out, ← hw8] | rw [← hw8] | skip
        exact bodyPost_ret (v := dv R qn) (results_cell_row Try.results39 _ _ (w.heap.size + 1) 40 (dc R qn).toArray (0, 0) _ rfl b8 Try.underlying40 rfl size40) rfl ⟨qn, rfl, r8, k8⟩
      · have i0 : ¬ (k : Int) < (q.ln : Int) := by omega
        go_wp2_with (first
          | ((with_reducible refine at_ld 40 ?_); (refine ld 40 (.tmp 5) 10 size40 _ Try.underlying40 rfl (w.heap.size + 1 + 1) 0 (dc R qn) rfl bV2.whole rfl ?_))
          | ((with_reducible refine at_st 40 ?_); (refine st' 40 (.tmp 4) (.tmp 40) 10 size40 (w.heap.size + 1) 0 (dc R qn) rfl (dc_one _ _) (b2V2.there 0 10 (by simp [z40])) rfl rfl ?_); intro w8 hw8))
        rw [← WV.out] at hw8
        have hg8 := but_cells (w.heap.size + 1) (dc R qn) V 0
        rw [← hw8] at hg8
        have b8 : Blk w8 (w.heap.size + 1) (dc R qn) 40 := by rw [hw8]; exact b2V.setsW _ rfl
        have k8 : Below w.heap.size w w8 := by rw [hw8]; exact below_sets (by omega) _ kV 0
        have r8 := (rV.keep hg8.size (fun j hj hb => hg8.block j hj (fun e => hn.out j hb (by have := Option.some.inj e; omega)))).mono (fun j _ hb => hm.out j hb)
        first | rw [← WV.out, ← hw8] | rw [← hw8] | skip
        exact bodyPost_ret (v := dv R qn) (results_cell_row Try.results39 _ _ (w.heap.size + 1) 40 (dc R qn).toArray (0, 0) _ rfl b8 Try.underlying40 rfl size40) rfl ⟨qn, rfl, r8, k8⟩

end Go.Proofs.Ytfdilgnlfademaa

/-
  The contract of the reference's Same: it tells whether two rows of bytes are equal, and turns nothing. No condition.
-/
namespace Go.Proofs.Ytfdilgnlfademaa
open Go.RowKit

theorem bt_inj {l m : List UInt8} (h : l.length = m.length) (k : ∀ i, i < l.length → bt l i = bt m i) : l = m := by
  apply List.ext_getElem h
  intro i h1 h2
  have := k i h1
  unfold bt at this
  simp [List.getD_eq_getElem?_getD, h1, h2] at this
  exact UInt8.toNat_inj.1 (by omega)

theorem same_step {l m : List UInt8} {k : Nat} (H : Hid (∀ j, j < k → bt l j = bt m j)) (h : (bt l k != bt m k) = false) (j : Nat) (hj : j < k + 1) : bt l j = bt m j := by
  by_cases e : j = k
  · subst e; simpa using h
  · exact H.out j (by omega)
theorem same_no {l m : List UInt8} {k : Nat} (h : (bt l k != bt m k) = true) : false = decide (l = m) := by
  symm
  rw [decide_eq_false_iff_not]
  intro e
  subst e
  simp at h
theorem same_yes {l m : List UInt8} {n k : Nat} (H : Hid (l.length = n ∧ m.length = n)) (h : ¬ k < n) (hj : ∀ j, j < k → bt l j = bt m j) : true = decide (l = m) := by
  symm
  rw [decide_eq_true_iff]
  obtain ⟨h1, h2⟩ := H.out
  exact bt_inj (by omega) fun i hi => hj i (by omega)

set_option maxHeartbeats 400000 in
theorem rSame (w : World) {a b : Option Addr} {n c n' c' : Nat} {l m : List UInt8} (ha : Bs w a n c l) (hb : Bs w b n' c' m) :
    Calls Try.prog 18 #[.slice a n c, .slice b n' c'] w fun e w' => e = .returned (.bool (decide (l = m))) ∧ ∃ k, w' = w.drewN k := by
  have h1 := ha.max
  have h2 := hb.max
  by_cases hn : n = n'
  · subst hn
    by_cases h0 : n = 0
    · subst h0
      have e : decide (l = m) = true := by
        have e1 := ha.len
        have e2 := hb.len
        simp at e1 e2
        simp [e1, e2]
      rw [e]
      clear e ha hb
      go_enter Try.func18, Try.ntmps18
      go_wp2
      refine wp_loop_rounds 1 ?_; rw [rounds_succ]; go_wp2
      go_ret
      exact ⟨rfl, 0, rfl⟩
    · obtain ⟨x, o, rfl, hx, hc⟩ := ha.at (by omega)
      obtain ⟨y, q, rfl, hy, hd⟩ := hb.at (by omega)
      have e1 := ha.len
      have e2 := hb.len
      have H : Hid (l.length = n ∧ m.length = n) := ⟨e1, e2⟩
      clear e1 e2 ha hb
      go_enter Try.func18, Try.ntmps18
      go_wp2
      go_loopw [5] (fun i wr => ∃ k : Nat, k ≤ n ∧ i = .int .i64 k ∧ (∃ d, wr = w.drewN d) ∧ ∀ j, j < k → bt l j = bt m j) (fun i _ => n - (intOf i).toNat)
      case atStart => exact ⟨0, Nat.zero_le _, rfl, ⟨0, rfl⟩, fun j hj => by omega⟩
      case round =>
        obtain ⟨k, hk, rfl, ⟨d, rfl⟩, hj⟩ := hrel
        by_cases hlt : k < n
        · have c1 := hc k hlt
          have c2 := hd k hlt
          have H2 : Hid (∀ j, j < k → bt l j = bt m j) := hj
          clear hj hc hd
          by_cases hq : bt l k = bt m k
          · have hq' : (bt l k != bt m k) = false := by simp [hq]
            clear hq
            go_wp2
            go_quiet (fail)
            go_wp2
            go_roundw
            case rel => exact ⟨k + 1, by omega, by go_num, ⟨_, rfl⟩, fun j hj => same_step H2 hq' j hj⟩
            case measure => simp [intOf]; omega
          · have hq' : (bt l k != bt m k) = true := by simp [hq]
            clear hq
            go_wp2
            go_quiet (fail)
            go_wp2
            go_ret
            exact ⟨ret_bool (same_no hq'), _, World.drewN_drewN _ _ _⟩
        · go_wp2
          go_ret
          exact ⟨ret_bool (same_yes H hlt hj), d, rfl⟩
  · have hq' : ((n : Int) != (n' : Int)) = true := by simp; omega
    have e : decide (l = m) = false := by
      have e1 := ha.len
      have e2 := hb.len
      simp
      intro h
      rw [h] at e1
      omega
    rw [e]
    clear e ha hb
    go_enter Try.func18, Try.ntmps18
    go_wp2
    go_ret
    exact ⟨rfl, 0, rfl⟩
end Go.Proofs.Ytfdilgnlfademaa

/-
  Two like rows held against each other. No condition; no statement of the seat is proved here.
-/
namespace Go.Proofs.Ytfdilgnlfademaa
open Go.RowKit

theorem sameT (w : World) {a b : Option Addr} {n c n' c' : Nat} {l : List UInt8} (ha : Bs w a n c l) (hb : Bs w b n' c' l) : Calls Try.prog 18 #[.slice a n c, .slice b n' c'] w fun e w' => e = .returned (.bool true) ∧ Below w.heap.size w w' := by
  have := rSame w ha hb
  rw [decide_eq_true rfl] at this
  refine this.mono ?_
  rintro e w' ⟨rfl, k, rfl⟩
  exact ⟨rfl, below_drewN' w k⟩

end Go.Proofs.Ytfdilgnlfademaa
