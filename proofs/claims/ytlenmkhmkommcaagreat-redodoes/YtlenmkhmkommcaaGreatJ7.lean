/-
  4 texts in one. No statement of the seat is proved here.
-/
import Derived.Test.YtlenmkhmkommcaaGreatJ6
import Derived.Deep.MidRow
/-
  The contract of layer 9's reference's Write. Conditions: lists of at most a million, fewer than 2^40 steps.
-/
namespace Go.Proofs.YtlenmkhmkommcaaGreat
open Go.RowKit
set_option linter.unusedVariables false

def DskS.wrote (D : DskS) (at_ : Int) (b : List UInt8) : DskS := if D.p.does then { D.tick.see (1, at_, b) with loose := D.tick.loose ++ [(at_, b)] } else D.tick
def DskS.write (D : DskS) (at_ : Int) (b : List UInt8) : DskS × Int := if at_ < 0 ∨ D.n ≤ at_ then (D, 2) else if b.length ≠ 512 then (D, 17) else (D.wrote at_ b, if D.p.ok then 0 else 5)
/-- A struct and a value handed back. -/
theorem res2 {fn : Func} {p t : Tmp} {ty : TypeId} (h : fn.results = #[.cell p ty, .tmp t]) (tmps : Array Value) (w : World) (g : Nat) (cs : Array Value) (hp : tmps.getD p undef = .pointer (some ⟨g, 0, none⟩)) (hl : (loadVar ty ⟨g, 0, none⟩).run Tryz.prog w = .ok (.agg cs) w) (x : Value) (hx : tmps.getD t undef = x) : (results fn tmps).run Tryz.prog w = .ok (.tuple #[.agg cs, x]) w := by
  have hp' : tmps[p]?.getD undef = .pointer (some ⟨g, 0, none⟩) := by simpa using hp
  have hx' : tmps[t]?.getD undef = x := by simpa using hx
  simp [results, h, hp', hx', asAddr, hl]

set_option maxRecDepth 100000 in
set_option maxHeartbeats 8000000 in
theorem rWrite (w : World) {A : Nat → Prop} {D : DskS} {q : Quad} (h : RD A w D q) (hA : ∀ j, w.heap.size ≤ j → A j) {mm : Nat} (hf : D.fit mm) (hmm : mm ≤ 5000) (at_ : Int) (hat : i64 at_) {p : Option Addr} {m c : Nat} {b : List UInt8} (hb : B5 A w p m c b) :
    Calls Tryz.prog 41 #[dv D q, .int .i64 at_, .slice p m c] w fun e w' => ∃ q', e = .returned (.tuple #[dv (D.write at_ b).1 q', .int .i64 (D.write at_ b).2]) ∧ RD A w' (D.write at_ b).1 q' ∧ Below w.heap.size w w' := by
  have hml : b.length = m := hb.bs.len
  by_cases hrg : at_ < 0 ∨ D.n ≤ at_
  · have e1 : D.write at_ b = (D, 2) := by unfold DskS.write; rw [if_pos hrg]
    rw [e1]
    dsimp only
    have key : Hid (∀ u, Below w.heap.size w u → ∃ q', Ending.returned (.tuple #[.agg #[.int .i64 (D.p.steps : Int), .int .i64 D.p.fuse, .bool D.p.done, .bool D.p.down, .int .i64 D.n, .slice q.sa q.sn q.sc, .slice q.la q.ln q.lc, .slice q.ta q.tn q.tc, .slice q.pa q.pn q.pq, .int .i64 (D.steps : Int)], .int .i64 2]) = .returned (.tuple #[dv D q', .int .i64 2]) ∧ RD A u D q' ∧ Below w.heap.size w u) := fun u hu => ⟨q, rfl, h.below hu, hu⟩
    have hdv : dv D q = .agg #[.int .i64 (D.p.steps : Int), .int .i64 D.p.fuse, .bool D.p.done, .bool D.p.down, .int .i64 D.n, .slice q.sa q.sn q.sc, .slice q.la q.ln q.lc, .slice q.ta q.tn q.tc, .slice q.pa q.pn q.pq, .int .i64 (D.steps : Int)] := rfl
    obtain ⟨P, hP⟩ : ∃ P : Ending → World → Prop, P = fun e w' => ∃ q', e = .returned (.tuple #[dv D q', .int .i64 2]) ∧ RD A w' D q' ∧ Below w.heap.size w w' := ⟨_, rfl⟩
    have KEYP : Hid (∀ u, Below w.heap.size w u → P (.returned (.tuple #[.agg #[.int .i64 (D.p.steps : Int), .int .i64 D.p.fuse, .bool D.p.done, .bool D.p.down, .int .i64 D.n, .slice q.sa q.sn q.sc, .slice q.la q.ln q.lc, .slice q.ta q.tn q.tc, .slice q.pa q.pn q.pq, .int .i64 (D.steps : Int)], .int .i64 2])) u) := by rw [hP]; exact key.out
    rw [← hP, hdv]
    clear hP key h hdv hf hb
    clear e1 hml
    by_cases h1 : at_ < 0
    · clear hrg
      go_enter Tryz.func41, Tryz.ntmps41
      go_wp2_with fail
      exact bodyPost_ret (by simp [results, Tryz.results41, go_sem]) rfl (KEYP.out _ (below2 _ _ _))
    · have h2 : D.n ≤ at_ := by omega
      clear hrg
      go_enter Tryz.func41, Tryz.ntmps41
      go_wp2_with fail
      exact bodyPost_ret (by simp [results, Tryz.results41, go_sem]) rfl (KEYP.out _ (below2 _ _ _))
  have n1 : ¬ at_ < 0 := fun h => hrg (Or.inl h)
  have n2 : ¬ D.n ≤ at_ := fun h => hrg (Or.inr h)
  by_cases hsz : b.length ≠ 512
  · have e1 : D.write at_ b = (D, 17) := by unfold DskS.write; rw [if_neg hrg, if_pos hsz]
    rw [e1]
    dsimp only
    have i5 : ((m : Int) != 512) = true := by simp; omega
    have key : Hid (∀ u, Below w.heap.size w u → ∃ q', Ending.returned (.tuple #[.agg #[.int .i64 (D.p.steps : Int), .int .i64 D.p.fuse, .bool D.p.done, .bool D.p.down, .int .i64 D.n, .slice q.sa q.sn q.sc, .slice q.la q.ln q.lc, .slice q.ta q.tn q.tc, .slice q.pa q.pn q.pq, .int .i64 (D.steps : Int)], .int .i64 17]) = .returned (.tuple #[dv D q', .int .i64 17]) ∧ RD A u D q' ∧ Below w.heap.size w u) := fun u hu => ⟨q, rfl, h.below hu, hu⟩
    have hdv : dv D q = .agg #[.int .i64 (D.p.steps : Int), .int .i64 D.p.fuse, .bool D.p.done, .bool D.p.down, .int .i64 D.n, .slice q.sa q.sn q.sc, .slice q.la q.ln q.lc, .slice q.ta q.tn q.tc, .slice q.pa q.pn q.pq, .int .i64 (D.steps : Int)] := rfl
    obtain ⟨P, hP⟩ : ∃ P : Ending → World → Prop, P = fun e w' => ∃ q', e = .returned (.tuple #[dv D q', .int .i64 17]) ∧ RD A w' D q' ∧ Below w.heap.size w w' := ⟨_, rfl⟩
    have KEYP : Hid (∀ u, Below w.heap.size w u → P (.returned (.tuple #[.agg #[.int .i64 (D.p.steps : Int), .int .i64 D.p.fuse, .bool D.p.done, .bool D.p.down, .int .i64 D.n, .slice q.sa q.sn q.sc, .slice q.la q.ln q.lc, .slice q.ta q.tn q.tc, .slice q.pa q.pn q.pq, .int .i64 (D.steps : Int)], .int .i64 17])) u) := by rw [hP]; exact key.out
    rw [← hP, hdv]
    clear hP key h hdv hf hb
    clear e1 hml hsz hrg
    go_enter Tryz.func41, Tryz.ntmps41
    go_wp2_with fail
    exact bodyPost_ret (by simp [results, Tryz.results41, go_sem]) rfl (KEYP.out _ (below2 _ _ _))
  have i5 : ((m : Int) != 512) = false := by simp; omega
  have e2 : D.write at_ b = (D.wrote at_ b, if D.p.ok then 0 else 5) := by unfold DskS.write; rw [if_neg hrg, if_neg hsz]
  obtain ⟨R, hR⟩ : ∃ R, R = D.write at_ b := ⟨_, rfl⟩
  rw [← hR]
  rw [e2] at hR
  have HR : Hid (R = (D.wrote at_ b, if D.p.ok then 0 else 5)) := hR
  clear hR e2 hrg hsz hml
  unfold DskS.wrote at HR
  obtain ⟨B, hB'⟩ : ∃ B : Nat → Prop, B = fun j => A j ∧ ¬ (w.heap.size ≤ j ∧ j ≤ w.heap.size + 1) := ⟨_, rfl⟩
  have hm : Hid (∀ j, B j → A j) := fun j hj => by rw [hB'] at hj; exact hj.1
  have hn : Hid (∀ j, B j → ¬ (w.heap.size ≤ j ∧ j ≤ w.heap.size + 1)) := fun j hj => by rw [hB'] at hj; exact hj.2
  have hnew : Hid (∀ j, w.heap.size + 1 < j → B j) := fun j hj => by rw [hB']; exact ⟨hA j (by omega), by omega⟩
  have hrB : RD B w D q := h.mono fun j hj ha => by rw [hB']; exact ⟨ha, by omega⟩
  have hbB : Hid (∀ g, w.heap.size ≤ g → B5 (fun j => B j ∧ j ≠ g) w p m c b) := fun g hg => hb.mono fun j hj ha => by rw [hB']; exact ⟨⟨ha, by omega⟩, by omega⟩
  clear hB' h hb
  have hlen := tick_len D
  have hl1 := hf.safe
  have hl2 := hf.loose
  have hl3 := hf.seen
  have hl4 := hf.plot
  have HLN : Hid (D.tick.safe.length + 1 ≤ 1000000 ∧ D.tick.loose.length + 1 ≤ 1000000 ∧ D.tick.seen.length + 1 ≤ 1000000) := ⟨by omega, by omega, by rw [hlen.2.2.2.1]; omega⟩
  have CT : Hid (∀ u, w.heap.size + 1 < u.heap.size → Below w.heap.size w u → Calls Tryz.prog 78 #[dv D q] u fun e w' => ∃ q', e = .returned (.tuple #[dv D.tick q', .bool D.p.ok, .bool D.p.does]) ∧ RD B w' D.tick q' ∧ Below u.heap.size u w') := fun u hu hb => rTick u (hrB.below hb) (fun j hj => hnew.out j (by omega)) hf hmm
  generalize D.p.ok = ok at *
  generalize D.p.does = does at *
  generalize D.tick = D1 at *
  clear hlen hl1 hl2 hl3 hl4
  obtain ⟨cd, hcd⟩ : ∃ cd : Int, cd = if ok then 0 else 5 := ⟨_, rfl⟩
  rw [← hcd] at HR
  have CA : Hid (∀ u, Calls Tryz.prog 80 #[.bool ok] u fun e w' => e = .returned (.int .i64 cd) ∧ u = w') := fun u => by rw [hcd]; exact rAnswer u ok
  clear hcd
  have b1 : Blk ((w.alloc (.cells #[.int .i64 (D.p.steps : Int), .int .i64 D.p.fuse, .bool D.p.done, .bool D.p.down, .int .i64 D.n, .slice q.sa q.sn q.sc, .slice q.la q.ln q.lc, .slice q.ta q.tn q.tc, .slice q.pa q.pn q.pq, .int .i64 (D.steps : Int)] 42)).alloc (.cells #[.int .i64 0, .int .i64 0, .bool false, .bool false, .int .i64 0, .slice none 0 0, .slice none 0 0, .slice none 0 0, .slice none 0 0, .int .i64 0] 42)) w.heap.size (dc D q) 42 := (Blk.newAt w _ _ w.heap.size rfl _ rfl).old _
  have b2 : Blk ((w.alloc (.cells #[.int .i64 (D.p.steps : Int), .int .i64 D.p.fuse, .bool D.p.done, .bool D.p.down, .int .i64 D.n, .slice q.sa q.sn q.sc, .slice q.la q.ln q.lc, .slice q.ta q.tn q.tc, .slice q.pa q.pn q.pq, .int .i64 (D.steps : Int)] 42)).alloc (.cells #[.int .i64 0, .int .i64 0, .bool false, .bool false, .int .i64 0, .slice none 0 0, .slice none 0 0, .slice none 0 0, .slice none 0 0, .int .i64 0] 42)) (w.heap.size + 1) z40 42 := Blk.newAt (w.alloc _) _ _ (w.heap.size + 1) (by simp) _ rfl
  have kb : Below w.heap.size w ((w.alloc (.cells #[.int .i64 (D.p.steps : Int), .int .i64 D.p.fuse, .bool D.p.done, .bool D.p.down, .int .i64 D.n, .slice q.sa q.sn q.sc, .slice q.la q.ln q.lc, .slice q.ta q.tn q.tc, .slice q.pa q.pn q.pq, .int .i64 (D.steps : Int)] 42)).alloc (.cells #[.int .i64 0, .int .i64 0, .bool false, .bool false, .int .i64 0, .slice none 0 0, .slice none 0 0, .slice none 0 0, .slice none 0 0, .int .i64 0] 42)) := below2 _ _ _
  have hdv : dv D q = .agg #[.int .i64 (D.p.steps : Int), .int .i64 D.p.fuse, .bool D.p.done, .bool D.p.down, .int .i64 D.n, .slice q.sa q.sn q.sc, .slice q.la q.ln q.lc, .slice q.ta q.tn q.tc, .slice q.pa q.pn q.pq, .int .i64 (D.steps : Int)] := rfl
  rw [hdv]
  rw [hdv] at CT
  clear hdv hrB hf
  go_enter Tryz.func41, Tryz.ntmps41
  go_wp2_with fail
  refine (CT.out _ b2.lt kb).mono ?_
  rintro e v1 ⟨q1, rfl, hr1, hv1⟩
  have b2v := b2.below hv1 b2.lt
  have kv := kb.trans (Below.mono hv1 kb.size)
  have hg1 := b2v.lt
  clear b1 b2 kb CT hv1
  obtain ⟨g, hg⟩ : ∃ g, g = v1.heap.size := ⟨_, rfl⟩
  have z7 : Blk (v1.alloc (.cells #[.int .i64 0, .int .i64 0, .bool false, .bool false, .int .i64 0, .slice none 0 0, .slice none 0 0, .slice none 0 0, .slice none 0 0, .int .i64 0] 42)) g z40 42 := Blk.newAt v1 _ _ g hg.symm _ rfl
  have k7 : Below v1.heap.size v1 (v1.alloc (.cells #[.int .i64 0, .int .i64 0, .bool false, .bool false, .int .i64 0, .slice none 0 0, .slice none 0 0, .slice none 0 0, .slice none 0 0, .int .i64 0] 42)) := below_alloc _ _
  have b2a := b2v.old (.cells #[.int .i64 0, .int .i64 0, .bool false, .bool false, .int .i64 0, .slice none 0 0, .slice none 0 0, .slice none 0 0, .slice none 0 0, .int .i64 0] 42)
  have hrC : RD (fun j => B j ∧ j ≠ g) v1 D1 q1 := hr1.mono (fun j hj hb => ⟨hb, by omega⟩)
  have hbC := hbB.out g (by omega)
  have hwg : w.heap.size + 1 < g := by omega
  unfold dv
  cases does with
  | true =>
    rw [if_pos rfl] at HR
    go_wp2_with (first
      | ((with_reducible refine at_st 42 ?_); (refine st' 42 (.tmp 8) (.tmp 28) 10 size40 v1.heap.size 0 (dc D1 q1) rfl (dc_one _ _) (by rw [← hg]; exact z7.there 0 10 (by simp [z40])) rfl rfl ?_); intro v3 hv3; have b7 : Blk v3 g (dc D1 q1) 42 := (by rw [hv3, ← hg]; exact z7.setsW _ rfl); have k3 : Below v1.heap.size v1 v3 := (by rw [hv3]; exact below_sets (Nat.le_refl _) _ k7 0); have b2x : Blk v3 (w.heap.size + 1) z40 42 := (by rw [hv3]; exact b2a.setsO (by omega) _ 0); clear hv3)
      | ((with_reducible refine at_ld 42 ?_); (refine ld 42 (.tmp 8) 10 size40 _ Tryz.underlying42 rfl g 0 (dc D1 q1) rfl b7.whole (by rw [hg]; rfl) ?_)))
    have hr3 := hrC.below k3
    have kv3 := kv.trans (k3.mono kv.size)
    have hs3 : g < v3.heap.size := b7.lt
    have hb3 := hbC.below kv3
    rw [← hg]
    clear hr1 hrC z7 k7 b2a b2v kv k3 hg hg1
    refine (rSee v3 hr3 (fun j hj => ⟨hnew.out j (by omega), by omega⟩) 1 at_ (by unfold i64; omega) hat hb3 HLN.out.2.2).mono ?_
    rintro e v4 ⟨q2, rfl, hr4, hv4⟩
    have b7v := b7.below hv4 b7.lt
    have b2v := b2x.below hv4 b2x.lt
    have kv4 := kv3.trans (Below.mono hv4 kv3.size)
    have hb4 := hb3.below hv4
    clear b7 b2x kv3 hr3 hv4 hb3
    obtain ⟨D2, hD2⟩ : ∃ D2, D2 = D1.see (1, at_, b) := ⟨_, rfl⟩
    have HLO : Hid (D2.loose = D1.loose) := by rw [hD2]; rfl
    rw [← hD2] at HR hr4 ⊢
    clear hD2
    unfold dv
    go_wp2_with (first
      | ((with_reducible refine at_st 42 ?_); (refine st' 42 (.tmp 8) (.tmp 36) 10 size40 g 0 (dc D2 q2) rfl (dc_one _ _) (b7v.there 0 10 (by simp [dc])) rfl rfl ?_); intro v5 hv5; have b7w : Blk v5 g (dc D2 q2) 42 := (by rw [hv5]; exact b7v.setsW _ rfl); have q5 : Kp (fun j => j = g) v4 v5 := (by rw [hv5]; exact Kp.of_grown (but_cells _ _ _ _)); have b2w : Blk v5 (w.heap.size + 1) z40 42 := q5.blk b2v (by omega); have hr5 := hr4.kp q5 (fun j hj e => hj.2 e); have k5 := below_kp kv4 q5 kv4.size (fun j hj e => by omega); have hb5 := hb4.kp q5 (fun j hj e => hj.2 e); have f6 : v5.cell? ⟨g, 6, none⟩ = some (.slice q2.la q2.ln q2.lc) := b7w.cell 6; have l7 := b7w.lt; clear hv5)
      | (at_builtin; (refine wpList_slapp (elC (fun j => B j ∧ j ≠ g)) 2 32 39 118 _ Tryz.underlying39 infoC rfl (by decide) (by decide) v5 rfl (.tmp 37) (.tmp 39) rfl v5.heap.size (.slice none 0 0) [] rfl (OwS.nil _ _ _ _ _) (fun j => B j ∧ j ≠ g) q2.la q2.ln q2.lc D2.loose rfl hr5.loose (by rw [HLO.out]; have := HLN.out.2.1; simp; omega) (Nat.le_refl _) (fun w' x vs hg hx => elC.grown hg (fun j cur f hj => by simp [Value.ownBlock] at hj) x vs hx) ?_); intro v6x v6 ho6 hg6; obtain ⟨a6, n6, c6, rfl, hn6⟩ := ho6.shape; rw [List.nil_append] at ho6; have q6 : Below v5.heap.size v5 v6 := (Below.refl _ _).grown hg6 (Nat.le_refl _) (fun k hk => by simp [Value.ownBlock] at hk); have oX := OwC.below ho6 (below_alloc v6 (.cells #[.int .i64 at_, .slice p m c] 118)))
      | (at_builtin; go_must (refine wpList_slapp (elC (fun j => B j ∧ j ≠ g)) 2 32 39 118 _ Tryz.underlying39 infoC rfl (by decide) (by decide) (v6.alloc (.cells #[.int .i64 at_, .slice p m c] 118)) rfl (.tmp 41) (.tmp 45) rfl v5.heap.size (.slice a6 n6 c6) D2.loose rfl oX (fun j => B j ∧ j ≠ g) (some ⟨v6.heap.size, 0, none⟩) 1 1 [(at_, b)] rfl (Sl.one (Blk.newAt v6 _ 118 v6.heap.size rfl _ rfl) ⟨rfl, by intro u hu; simp at hu; rcases hu with rfl | rfl <;> rfl, ⟨p, m, c, rfl, (hb5.below q6).below (below_alloc _ _), hat⟩⟩ ⟨hnew.out _ (by have := q6.size; omega), by have := q6.size; omega⟩) (by rw [HLO.out]; have := HLN.out.2.1; simp; omega) (Nat.le_trans q6.size (by simp)) (fun w' x vs hg hx => elC.grown hg (oX.not5 ne5) x vs hx) ?_); intro v7x v7 ho7 hg7; obtain ⟨a7, n7, c7, rfl, hn7⟩ := ho7.shape; have q7 : Below v5.heap.size (v6.alloc (.cells #[.int .i64 at_, .slice p m c] 118)) v7 := (Below.refl _ _).grown hg7 (Nat.le_trans q6.size (by simp)) (fun k hk => (oX.lt k hk).1); have q57 : Below v5.heap.size v5 v7 := (q6.alloc q6.size _).trans q7; have b7y := b7w.below q57 b7w.lt; have f7 : v7.cell? ⟨g, 6, none⟩ = some (.slice q2.la q2.ln q2.lc) := b7y.cell 6; have z7' := b7y.free 6; have l7' := b7y.lt))
    obtain ⟨V, hV⟩ : ∃ V, V = v7.setCell ⟨g, 6, none⟩ (.slice a7 n7 c7) := ⟨_, rfl⟩
    rw [← hV]
    obtain ⟨D3, hD3⟩ : ∃ D3 : DskS, D3 = { D2 with loose := D1.loose ++ [(at_, b)] } := ⟨_, rfl⟩
    rw [← hD3] at HR
    obtain ⟨q3, hq3⟩ : ∃ q3 : Quad, q3 = ⟨q2.sa, q2.sn, q2.sc, a7, n7, c7, q2.ta, q2.tn, q2.tc, q2.pa, q2.pn, q2.pq⟩ := ⟨_, rfl⟩
    have b7 : Blk V g (dc D3 q3) 42 := by rw [hV, hD3, hq3]; exact b7y.setC 6 _
    have kpV : Kp (fun j => j = g) v7 V := by rw [hV]; exact Kp.of_grown (but_set _ _ _ _)
    have b2x := kpV.blk (b2w.below q57 b2w.lt) (by omega)
    have k57 := k5.trans (q57.mono k5.size)
    have kx := below_kp k57 kpV k57.size (fun j hj e => by omega)
    have oV := OwC.grown (w' := V) ho7 kpV.grown (by omega) (b7y.not5 ne40)
    rw [HLO.out] at oV
    have hr57 := (hr5.below q57).kp kpV (fun j hj e => hj.2 e)
    have hrx : RD (fun j => B j ∧ j ≠ g) V D3 q3 := by rw [hD3, hq3]; exact ⟨hr57.safe, oV.sl3 (fun j hj _ => ⟨hnew.out j (by omega), by omega⟩), hr57.seen, hr57.plot⟩
    clear hV hD3 hq3 kpV k57 oV hr57 ho7 hg7 q7 q57 b7y f7 z7' l7' oX ho6 hg6 q6 b7w b2w hr5 k5 hb5 f6 l7 b7v b2v kv4 hr4 hb4
    go_wp2_with fail
    refine regionE 3 (S := Grows V) (by kernel_rfl) (Below.refl _ V).drew ?_
    refine takeT 0 (some 48) (dv D3 q3) rfl rfl (by kernel_rfl) (fun _ _ _ h => h) (ans_row 42 (.tmp 8) _ 10 rfl (by rfl) g 0 rfl (dc D3 q3) (fun w h => (b7.below h b7.lt).whole) Tryz.underlying42 rfl rfl size40) ?_
    simp only [Act.put, List.setIfInBounds_toArray, List.set_cons_zero, List.set_cons_succ]
    refine takeT 1 (some 49) (.bool ok) rfl rfl (by kernel_rfl) (fun _ _ _ h => h) (ans_plain (by rfl) (fun w _ => rfl)) ?_
    simp only [Act.put, List.setIfInBounds_toArray, List.set_cons_zero, List.set_cons_succ]
    refine takeT 2 (some 50) (.int .i64 cd) rfl rfl (by kernel_rfl) (fun _ _ _ h => h) (ans_call 80 #[.tmp 49] #[4] #[.bool ok] rfl (by rfl) (by rfl) Tryz.call80 fun u h => (CA.out u).mono fun e u' ⟨he, hw⟩ => ⟨he, by rw [← hw]; exact Grows.refl _, by rw [← hw]; exact h⟩) ?_
    simp only [Act.put, List.setIfInBounds_toArray, List.set_cons_zero, List.set_cons_succ]
    refine goE (by kernel_rfl) (by kernel_rfl) (by kernel_rfl) fun u3 hg3 hs3 => ?_
    refine opStR 3 42 (.tmp 6) (.tmp 48) 10 rfl rfl rfl rfl (w.heap.size + 1) z40 (dc D3 q3) _ (b2x.below hs3 b2x.lt) rfl rfl (dc_one _ _) size40 rfl rfl fun u4 b4 q4 => ?_
    refine takeP 4 (some 7) (.int .i64 cd) rfl rfl (by kernel_rfl) (fun _ _ _ h => h) (by rfl) (fun w => by unfold execOp; go_simp) ?_
    simp only [Act.put, List.setIfInBounds_toArray, List.set_cons_zero, List.set_cons_succ]
    refine endE (by kernel_rfl) fun u5 hg5 => ?_
    have r3 := hrx.below hs3
    have r4 := r3.kp q4 (fun j hj e => hn.out j hj.1 (by omega))
    have r5 := (r4.below hg5).mono (fun j _ hb => hm.out j hb.1)
    have b5 := b4.below hg5 b4.lt
    have k3 := kx.trans (Below.mono hs3 kx.size)
    have k4 := below_kp k3 q4 k3.size (fun j hj e => by omega)
    have k5 := k4.trans (Below.mono hg5 k4.size)
    clear r3 r4 k3 k4 q4 b4 hs3 hg3 hg5
    go_wp2_with fail
    exact bodyPost_ret (v := .tuple #[dv D3 q3, .int .i64 cd]) (res2 Tryz.results41 _ _ (w.heap.size + 1) (dc D3 q3).toArray rfl (run_loadVar_row u5 (w.heap.size + 1) 42 42 (dc D3 q3).toArray (0, 0) _ b5 Tryz.underlying42 rfl size40) _ rfl) rfl ⟨q3, by rw [HR.out], by rw [HR.out]; exact r5, k5⟩
  | false =>
    rw [if_neg (show ¬ (false = true) by simp)] at HR
    go_wp2_with ((with_reducible refine at_st 42 ?_); (refine st' 42 (.tmp 8) (.tmp 28) 10 size40 v1.heap.size 0 (dc D1 q1) rfl (dc_one _ _) (by rw [← hg]; exact z7.there 0 10 (by simp [z40])) rfl rfl ?_); intro v3 hv3; have b7 : Blk v3 g (dc D1 q1) 42 := (by rw [hv3, ← hg]; exact z7.setsW _ rfl); have k3 : Below v1.heap.size v1 v3 := (by rw [hv3]; exact below_sets (Nat.le_refl _) _ k7 0); have b2x : Blk v3 (w.heap.size + 1) z40 42 := (by rw [hv3]; exact b2a.setsO (by omega) _ 0); have hrx := hrC.below k3; have kx := kv.trans (k3.mono kv.size); clear hv3)
    rw [← hg]
    refine regionE 3 (S := Grows v3) (by kernel_rfl) (Below.refl _ v3).drew ?_
    refine takeT 0 (some 48) (dv D1 q1) rfl rfl (by kernel_rfl) (fun _ _ _ h => h) (ans_row 42 (.tmp 8) _ 10 rfl (by rfl) g 0 rfl (dc D1 q1) (fun w h => (b7.below h b7.lt).whole) Tryz.underlying42 rfl rfl size40) ?_
    simp only [Act.put, List.setIfInBounds_toArray, List.set_cons_zero, List.set_cons_succ]
    refine takeT 1 (some 49) (.bool ok) rfl rfl (by kernel_rfl) (fun _ _ _ h => h) (ans_plain (by rfl) (fun w _ => rfl)) ?_
    simp only [Act.put, List.setIfInBounds_toArray, List.set_cons_zero, List.set_cons_succ]
    refine takeT 2 (some 50) (.int .i64 cd) rfl rfl (by kernel_rfl) (fun _ _ _ h => h) (ans_call 80 #[.tmp 49] #[4] #[.bool ok] rfl (by rfl) (by rfl) Tryz.call80 fun u h => (CA.out u).mono fun e u' ⟨he, hw⟩ => ⟨he, by rw [← hw]; exact Grows.refl _, by rw [← hw]; exact h⟩) ?_
    simp only [Act.put, List.setIfInBounds_toArray, List.set_cons_zero, List.set_cons_succ]
    refine goE (by kernel_rfl) (by kernel_rfl) (by kernel_rfl) fun u3 hg3 hs3 => ?_
    refine opStR 3 42 (.tmp 6) (.tmp 48) 10 rfl rfl rfl rfl (w.heap.size + 1) z40 (dc D1 q1) _ (b2x.below hs3 b2x.lt) rfl rfl (dc_one _ _) size40 rfl rfl fun u4 b4 q4 => ?_
    refine takeP 4 (some 7) (.int .i64 cd) rfl rfl (by kernel_rfl) (fun _ _ _ h => h) (by rfl) (fun w => by unfold execOp; go_simp) ?_
    simp only [Act.put, List.setIfInBounds_toArray, List.set_cons_zero, List.set_cons_succ]
    refine endE (by kernel_rfl) fun u5 hg5 => ?_
    have r3 := hrx.below hs3
    have r4 := r3.kp q4 (fun j hj e => hn.out j hj.1 (by omega))
    have r5 := (r4.below hg5).mono (fun j _ hb => hm.out j hb.1)
    have b5 := b4.below hg5 b4.lt
    have k3 := kx.trans (Below.mono hs3 kx.size)
    have k4 := below_kp k3 q4 k3.size (fun j hj e => by omega)
    have k5 := k4.trans (Below.mono hg5 k4.size)
    clear r3 r4 k3 k4 q4 b4 hs3 hg3 hg5
    go_wp2_with fail
    exact bodyPost_ret (v := .tuple #[dv D1 q1, .int .i64 cd]) (res2 Tryz.results41 _ _ (w.heap.size + 1) (dc D1 q1).toArray rfl (run_loadVar_row u5 (w.heap.size + 1) 42 42 (dc D1 q1).toArray (0, 0) _ b5 Tryz.underlying42 rfl size40) _ rfl) rfl ⟨q1, by rw [HR.out], by rw [HR.out]; exact r5, k5⟩

end Go.Proofs.YtlenmkhmkommcaaGreat

/-
  The contract of layer 9's reference's Flush. Conditions: lists of at most a million, fewer than 2^40 steps.
-/
namespace Go.Proofs.YtlenmkhmkommcaaGreat
open Go.RowKit
set_option linter.unusedVariables false

def DskS.settles (D : DskS) (l : List Chg) : DskS := l.foldl (fun D c => D.settle c.1 c.2) D
def DskS.flushed (D : DskS) : DskS := if D.p.does then ({ D.tick.settles D.tick.loose with loose := [] } : DskS).see (2, -1, []) else D.tick
theorem settles_snoc (D : DskS) (l : List Chg) (c : Chg) : D.settles (l ++ [c]) = (D.settles l).settle c.1 c.2 := by unfold DskS.settles; rw [List.foldl_append]; rfl
theorem settles_len : ∀ (l : List Chg) (D : DskS), (D.settles l).safe.length = D.safe.length + l.length ∧ (D.settles l).loose = D.loose ∧ (D.settles l).p = D.p ∧ (D.settles l).steps = D.steps ∧ (D.settles l).n = D.n ∧ (D.settles l).seen = D.seen ∧ (D.settles l).plot = D.plot
  | [], D => ⟨rfl, rfl, rfl, rfl, rfl, rfl, rfl⟩
  | c :: l, D => by
    have e : D.settles (c :: l) = (D.settle c.1 c.2).settles l := rfl
    rw [e]
    obtain ⟨a1, a2, a3, a4, a5, a6, a7⟩ := settles_len l (D.settle c.1 c.2)
    refine ⟨?_, a2, a3, a4, a5, a6, a7⟩
    rw [a1]
    show (D.safe ++ [_]).length + l.length = _
    simp
    omega

set_option maxRecDepth 100000 in
set_option maxHeartbeats 8000000 in
theorem rFlush (w : World) {A : Nat → Prop} {D : DskS} {q : Quad} (h : RD A w D q) (hA : ∀ j, w.heap.size ≤ j → A j) {mm : Nat} (hf : D.fit mm) (hmm : mm ≤ 5000) :
    Calls Tryz.prog 42 #[dv D q] w fun e w' => ∃ q', e = .returned (.tuple #[dv D.flushed q', .int .i64 (if D.p.ok then 0 else 5)]) ∧ RD A w' D.flushed q' ∧ Below w.heap.size w w' := by
  obtain ⟨R, hR⟩ : ∃ R, R = D.flushed := ⟨_, rfl⟩
  rw [← hR]
  have HR : Hid (R = D.flushed) := hR
  clear hR
  unfold DskS.flushed at HR
  obtain ⟨B, hB'⟩ : ∃ B : Nat → Prop, B = fun j => A j ∧ ¬ (w.heap.size ≤ j ∧ j ≤ w.heap.size + 1) := ⟨_, rfl⟩
  have hm : Hid (∀ j, B j → A j) := fun j hj => by rw [hB'] at hj; exact hj.1
  have hn : Hid (∀ j, B j → ¬ (w.heap.size ≤ j ∧ j ≤ w.heap.size + 1)) := fun j hj => by rw [hB'] at hj; exact hj.2
  have hnew : Hid (∀ j, w.heap.size + 1 < j → B j) := fun j hj => by rw [hB']; exact ⟨hA j (by omega), by omega⟩
  have hrB : RD B w D q := h.mono fun j hj ha => by rw [hB']; exact ⟨ha, by omega⟩
  clear hB' h
  have hlen := tick_len D
  have hl1 := hf.safe
  have hl2 := hf.loose
  have hl3 := hf.seen
  have hl4 := hf.plot
  have HLN : Hid (D.tick.safe.length + D.tick.loose.length + 1 ≤ 1000000 ∧ D.tick.loose.length ≤ 1000000 ∧ D.tick.seen.length + 1 ≤ 1000000) := ⟨by omega, by omega, by rw [hlen.2.2.2.1]; omega⟩
  have CT : Hid (∀ u, w.heap.size + 1 < u.heap.size → Below w.heap.size w u → Calls Tryz.prog 78 #[dv D q] u fun e w' => ∃ q', e = .returned (.tuple #[dv D.tick q', .bool D.p.ok, .bool D.p.does]) ∧ RD B w' D.tick q' ∧ Below u.heap.size u w') := fun u hu hb => rTick u (hrB.below hb) (fun j hj => hnew.out j (by omega)) hf hmm
  obtain ⟨ok, hok⟩ : ∃ ok, ok = D.p.ok := ⟨_, rfl⟩
  rw [← hok] at CT ⊢
  generalize D.p.does = does at *
  generalize D.tick = D1 at *
  clear hlen hl1 hl2 hl3 hl4 hok
  obtain ⟨cd, hcd⟩ : ∃ cd : Int, cd = if ok then 0 else 5 := ⟨_, rfl⟩
  rw [← hcd]
  have CA : Hid (∀ u, Calls Tryz.prog 80 #[.bool ok] u fun e w' => e = .returned (.int .i64 cd) ∧ u = w') := fun u => by rw [hcd]; exact rAnswer u ok
  clear hcd
  have b1 : Blk ((w.alloc (.cells #[.int .i64 (D.p.steps : Int), .int .i64 D.p.fuse, .bool D.p.done, .bool D.p.down, .int .i64 D.n, .slice q.sa q.sn q.sc, .slice q.la q.ln q.lc, .slice q.ta q.tn q.tc, .slice q.pa q.pn q.pq, .int .i64 (D.steps : Int)] 42)).alloc (.cells #[.int .i64 0, .int .i64 0, .bool false, .bool false, .int .i64 0, .slice none 0 0, .slice none 0 0, .slice none 0 0, .slice none 0 0, .int .i64 0] 42)) w.heap.size (dc D q) 42 := (Blk.newAt w _ _ w.heap.size rfl _ rfl).old _
  have b2 : Blk ((w.alloc (.cells #[.int .i64 (D.p.steps : Int), .int .i64 D.p.fuse, .bool D.p.done, .bool D.p.down, .int .i64 D.n, .slice q.sa q.sn q.sc, .slice q.la q.ln q.lc, .slice q.ta q.tn q.tc, .slice q.pa q.pn q.pq, .int .i64 (D.steps : Int)] 42)).alloc (.cells #[.int .i64 0, .int .i64 0, .bool false, .bool false, .int .i64 0, .slice none 0 0, .slice none 0 0, .slice none 0 0, .slice none 0 0, .int .i64 0] 42)) (w.heap.size + 1) z40 42 := Blk.newAt (w.alloc _) _ _ (w.heap.size + 1) (by simp) _ rfl
  have kb : Below w.heap.size w ((w.alloc (.cells #[.int .i64 (D.p.steps : Int), .int .i64 D.p.fuse, .bool D.p.done, .bool D.p.down, .int .i64 D.n, .slice q.sa q.sn q.sc, .slice q.la q.ln q.lc, .slice q.ta q.tn q.tc, .slice q.pa q.pn q.pq, .int .i64 (D.steps : Int)] 42)).alloc (.cells #[.int .i64 0, .int .i64 0, .bool false, .bool false, .int .i64 0, .slice none 0 0, .slice none 0 0, .slice none 0 0, .slice none 0 0, .int .i64 0] 42)) := below2 _ _ _
  have hdv : dv D q = .agg #[.int .i64 (D.p.steps : Int), .int .i64 D.p.fuse, .bool D.p.done, .bool D.p.down, .int .i64 D.n, .slice q.sa q.sn q.sc, .slice q.la q.ln q.lc, .slice q.ta q.tn q.tc, .slice q.pa q.pn q.pq, .int .i64 (D.steps : Int)] := rfl
  rw [hdv]
  rw [hdv] at CT
  clear hdv hrB hf
  go_enter Tryz.func42, Tryz.ntmps42
  go_wp2_with fail
  refine (CT.out _ b2.lt kb).mono ?_
  rintro e v1 ⟨q1, rfl, hr1, hv1⟩
  have b2v := b2.below hv1 b2.lt
  have kv := kb.trans (Below.mono hv1 kb.size)
  have hg1 := b2v.lt
  clear b1 b2 kb CT hv1
  obtain ⟨g, hg⟩ : ∃ g, g = v1.heap.size := ⟨_, rfl⟩
  have z7 : Blk (v1.alloc (.cells #[.int .i64 0, .int .i64 0, .bool false, .bool false, .int .i64 0, .slice none 0 0, .slice none 0 0, .slice none 0 0, .slice none 0 0, .int .i64 0] 42)) g z40 42 := Blk.newAt v1 _ _ g hg.symm _ rfl
  have k7 : Below v1.heap.size v1 (v1.alloc (.cells #[.int .i64 0, .int .i64 0, .bool false, .bool false, .int .i64 0, .slice none 0 0, .slice none 0 0, .slice none 0 0, .slice none 0 0, .int .i64 0] 42)) := below_alloc _ _
  have b2a := b2v.old (.cells #[.int .i64 0, .int .i64 0, .bool false, .bool false, .int .i64 0, .slice none 0 0, .slice none 0 0, .slice none 0 0, .slice none 0 0, .int .i64 0] 42)
  have hrC : RD (fun j => B j ∧ j ≠ g) v1 D1 q1 := hr1.mono (fun j hj hb => ⟨hb, by omega⟩)
  have hwg : w.heap.size + 1 < g := by omega
  unfold dv
  cases does with
  | true =>
    rw [if_pos rfl] at HR
    go_wp2_with ((with_reducible refine at_st 42 ?_); (refine st' 42 (.tmp 4) (.tmp 12) 10 size40 v1.heap.size 0 (dc D1 q1) rfl (dc_one _ _) (by rw [← hg]; exact z7.there 0 10 (by simp [z40])) rfl rfl ?_); intro v3 hv3; have b7 : Blk v3 g (dc D1 q1) 42 := (by rw [hv3, ← hg]; exact z7.setsW _ rfl); have k3 : Below v1.heap.size v1 v3 := (by rw [hv3]; exact below_sets (Nat.le_refl _) _ k7 0); have b2x : Blk v3 (w.heap.size + 1) z40 42 := (by rw [hv3]; exact b2a.setsO (by omega) _ 0); have hrx := hrC.below k3; have kx := kv.trans (k3.mono kv.size); have f6 : v3.cell? ⟨v1.heap.size, 6, none⟩ = some (.slice q1.la q1.ln q1.lc) := (by rw [← hg]; exact b7.cell 6); have l7 : v1.heap.size < v3.heap.size := (by rw [← hg]; exact b7.lt); clear hv3)
    rw [← hg]
    have HL1 : Hid (D1.loose.length = q1.ln) := hrx.loose.len
    have hln : q1.ln ≤ 1000000 := by have := HLN.out.2.1; have := HL1.out; omega
    obtain ⟨dk, hdk⟩ : ∃ dk : Nat → DskS, dk = fun k => D1.settles (D1.loose.take k) := ⟨_, rfl⟩
    have HD0 : Hid (dk 0 = D1) := by rw [hdk]; rfl
    have HDS : Hid (∀ k y, D1.loose[k]? = some y → dk (k + 1) = (dk k).settle y.1 y.2) := fun k y hy => by rw [hdk]; dsimp only; rw [List.take_add_one, hy]; exact settles_snoc D1 _ y
    have HDL : Hid (∀ k, (dk k).safe.length + 1 ≤ 1000000 ∧ (dk k).seen = D1.seen) := fun k => by rw [hdk]; dsimp only; have h1 := settles_len (D1.loose.take k) D1; have h2 := List.length_take_le' k D1.loose; have h3 := HLN.out.1; exact ⟨by omega, h1.2.2.2.2.2.1⟩
    have HDE : Hid (dk q1.ln = D1.settles D1.loose) := by show _ = _; rw [hdk]; dsimp only; rw [List.take_of_length_le (by rw [HL1.out]; exact Nat.le_refl _)]
    rw [← HDE.out] at HR
    clear hdk HDE hr1 hrC z7 k7 b2a b2v kv k3 hg hg1 f6 l7
    go_loopw [8] (fun i wr => ∃ (k : Nat) (qk : Quad), k ≤ q1.ln ∧ i = .int .i64 (k : Int) ∧ Blk wr g (dc (dk k) qk) 42 ∧ Blk wr (w.heap.size + 1) z40 42 ∧ RD (fun j => B j ∧ j ≠ g) wr (dk k) qk ∧ Sl (elC (fun j => B j ∧ j ≠ g)) 2 (fun j => B j ∧ j ≠ g) wr q1.la q1.ln q1.lc D1.loose ∧ Below w.heap.size w wr) (fun i _ => q1.ln - (intOf i).toNat)
    case atStart => exact ⟨0, q1, Nat.zero_le _, rfl, by rw [HD0.out]; exact b7, b2x, by rw [HD0.out]; exact hrx, hrx.loose, kx⟩
    case round =>
      clear b7 b2x hrx kx
      obtain ⟨k, qk, hk, rfl, b7, b2x, hrx, hsl, kx⟩ := hrel
      have l7 := b7.lt
      by_cases hlt : k < q1.ln
      · have i0 : (k : Int) < (q1.ln : Int) := by omega
        obtain ⟨y, hy⟩ : ∃ y, D1.loose[k]? = some y := ⟨_, List.getElem?_eq_getElem (by rw [HL1.out]; exact hlt)⟩
        obtain ⟨eb, eo, ep, em, eq, hla, hlb, cx, cy, hB, hyi⟩ := hsl.change hy
        have HSS : Hid (dk (k + 1) = (dk k).settle y.1 y.2) := HDS.out k y hy
        have i3 : (0 : Int) ≤ (k : Int) := by omega
        obtain ⟨ya, yb⟩ := y
        dsimp only at cx cy hB hyi HSS
        have F1 : ∀ u, Grows wr u → u.cell? ⟨eb, eo + k * 2, none⟩ = some (.int .i64 ya) := fun u h => (Below.cell h (p := ⟨eb, eo + k * 2, none⟩) hlb).trans cx
        have F2 : ∀ u, Grows wr u → u.cell? ⟨eb, eo + k * 2 + 1, none⟩ = some (.slice ep em eq) := fun u h => (Below.cell h (p := ⟨eb, eo + k * 2 + 1, none⟩) hlb).trans cy
        rw [hla]
        go_wp2_with fail
        refine regionE 12 (S := Grows wr) (by kernel_rfl) (Below.refl _ wr).drew ?_
        refine takeT 0 (some 24) (dv (dk k) qk) rfl rfl (by kernel_rfl) (fun _ _ _ h => h) (ans_row 42 (.tmp 4) _ 10 rfl (by rfl) g 0 rfl (dc (dk k) qk) (fun w h => (b7.below h b7.lt).whole) Tryz.underlying42 rfl rfl size40) ?_
        simp only [Act.put, List.setIfInBounds_toArray, List.set_cons_zero, List.set_cons_succ]
        refine takeT 1 (some 25) (.slice (some ⟨eb, eo, none⟩) q1.ln q1.lc) rfl rfl (by kernel_rfl) (fun _ _ _ h => h) (ans_plain (by rfl) (fun w _ => rfl)) ?_
        simp only [Act.put, List.setIfInBounds_toArray, List.set_cons_zero, List.set_cons_succ]
        refine takeT 2 (some 26) (.int .i64 (k : Int)) rfl rfl (by kernel_rfl) (fun _ _ _ h => h) (ans_plain (by rfl) (fun w _ => rfl)) ?_
        simp only [Act.put, List.setIfInBounds_toArray, List.set_cons_zero, List.set_cons_succ]
        refine takeT 3 (some 27) (.pointer (some ⟨eb, eo + k * 2, none⟩)) rfl rfl (by kernel_rfl) (fun _ _ _ h => h) (ans_plain (by rfl) (fun w _ => by unfold execOp; go_simp)) ?_
        simp only [Act.put, List.setIfInBounds_toArray, List.set_cons_zero, List.set_cons_succ]
        refine takeT 4 (some 28) (.pointer (some ⟨eb, eo + k * 2, none⟩)) rfl rfl (by kernel_rfl) (fun _ _ _ h => h) (ans_plain (by rfl) (fun w _ => by unfold execOp; go_simp)) ?_
        simp only [Act.put, List.setIfInBounds_toArray, List.set_cons_zero, List.set_cons_succ]
        refine takeT 5 (some 29) (.int .i64 ya) rfl rfl (by kernel_rfl) (fun _ _ _ h => h) (ans_plain (by rfl) (fun w h => by have hc := F1 w h; unfold execOp; go_simp)) ?_
        simp only [Act.put, List.setIfInBounds_toArray, List.set_cons_zero, List.set_cons_succ]
        refine takeT 6 (some 30) (.slice (some ⟨eb, eo, none⟩) q1.ln q1.lc) rfl rfl (by kernel_rfl) (fun _ _ _ h => h) (ans_plain (by rfl) (fun w _ => rfl)) ?_
        simp only [Act.put, List.setIfInBounds_toArray, List.set_cons_zero, List.set_cons_succ]
        refine takeT 7 (some 31) (.int .i64 (k : Int)) rfl rfl (by kernel_rfl) (fun _ _ _ h => h) (ans_plain (by rfl) (fun w _ => rfl)) ?_
        simp only [Act.put, List.setIfInBounds_toArray, List.set_cons_zero, List.set_cons_succ]
        refine takeT 8 (some 32) (.pointer (some ⟨eb, eo + k * 2, none⟩)) rfl rfl (by kernel_rfl) (fun _ _ _ h => h) (ans_plain (by rfl) (fun w _ => by unfold execOp; go_simp)) ?_
        simp only [Act.put, List.setIfInBounds_toArray, List.set_cons_zero, List.set_cons_succ]
        refine takeT 9 (some 33) (.pointer (some ⟨eb, eo + k * 2 + 1, none⟩)) rfl rfl (by kernel_rfl) (fun _ _ _ h => h) (ans_plain (by rfl) (fun w _ => by unfold execOp; go_simp)) ?_
        simp only [Act.put, List.setIfInBounds_toArray, List.set_cons_zero, List.set_cons_succ]
        refine takeT 10 (some 34) (.slice ep em eq) rfl rfl (by kernel_rfl) (fun _ _ _ h => h) (ans_plain (by rfl) (fun w h => by have hc := F2 w h; unfold execOp; go_simp)) ?_
        simp only [Act.put, List.setIfInBounds_toArray, List.set_cons_zero, List.set_cons_succ]
        refine callE 11 (some 35) 50 #[.tmp 24, .tmp 29, .tmp 34] #[42, 3, 26] #[dv (dk k) qk, .int .i64 ya, .slice ep em eq] rfl rfl rfl (by rfl) (by rfl) (by kernel_rfl) (by kernel_rfl) Tryz.call50 fun u1 hg1 hs1 => ?_
        have hs7 : g < u1.heap.size := (b7.below hs1 b7.lt).lt
        refine (rSettle u1 (hrx.below hs1) (fun j hj => ⟨hnew.out j (by omega), by omega⟩) ya hyi (hB.below hs1).bs (HDL.out k).1).mono ?_
        rintro e u2 ⟨q2, rfl, hr2, hb2⟩
        have hs2 : Grows wr u2 := Grows.trans hs1 hb2
        refine ⟨_, rfl, hs2, ?_⟩
        simp only [Act.put, List.setIfInBounds_toArray, List.set_cons_zero, List.set_cons_succ]
        rw [← HSS.out] at hr2 ⊢
        refine lastE (by kernel_rfl) (by kernel_rfl) (by kernel_rfl) (by kernel_rfl) fun u3 hg3 hs3 => ?_
        refine opStR 12 42 (.tmp 4) (.tmp 35) 10 rfl rfl rfl rfl g (dc (dk k) qk) (dc (dk (k + 1)) q2) _ (b7.below hs3 b7.lt) rfl rfl (dc_one _ _) size40 rfl rfl fun u4 b4 q4 u5 hg5 => ?_
        have r5 := ((hr2.below hg3).kp q4 (fun j hj e => hj.2 e)).below hg5
        have b5 := b4.below hg5 b4.lt
        have b2y := q4.blk (b2x.below hs3 b2x.lt) (by omega)
        have b2z := b2y.below hg5 b2y.lt
        have s3 := hsl.keep (Below.size hs3) (elC.keep fun j hj _ => Below.block hs3 j hj) (fun j hj _ => Below.block hs3 j hj)
        have s4 := s3.keep q4.size (elC.keep fun j hj ha => q4.block j hj ha.2) (fun j hj ha => q4.block j hj ha.2)
        have s5 := s4.keep (Below.size hg5) (elC.keep fun j hj _ => Below.block hg5 j hj) (fun j hj _ => Below.block hg5 j hj)
        have k3 := kx.trans (Below.mono hs3 kx.size)
        have k4 := below_kp k3 q4 k3.size (fun j hj e => by omega)
        have k5 := k4.trans (Below.mono hg5 k4.size)
        clear k3 k4 s3 s4 b2y q4 b4 hg3 hs3 hs2 hb2 hr2 hs1 hg1 hs7 F1 F2 hg5 b7 b2x hrx hsl kx cx cy hB hlb
        go_wp2_with fail
        go_roundw
        case rel => exact ⟨k + 1, q2, by omega, by go_num, b5, b2z, r5, (by first | exact s5 | (rw [← hla]; exact s5)), k5⟩
        case measure => simp [intOf]; omega
      · obtain rfl : k = q1.ln := by omega
        have i0 : ¬ (q1.ln : Int) < (q1.ln : Int) := by omega
        have f6 : wr.cell? ⟨g, 6, none⟩ = some (.slice qk.la qk.ln qk.lc) := b7.cell 6
        have z6 := b7.free 6
        obtain ⟨V, hV⟩ : ∃ V, V = wr.setCell ⟨g, 6, none⟩ (.slice none 0 0) := ⟨_, rfl⟩
        obtain ⟨Dn, hDn⟩ : ∃ Dn : DskS, Dn = { dk q1.ln with loose := [] } := ⟨_, rfl⟩
        obtain ⟨qn, hqn⟩ : ∃ qn : Quad, qn = ⟨qk.sa, qk.sn, qk.sc, none, 0, 0, qk.ta, qk.tn, qk.tc, qk.pa, qk.pn, qk.pq⟩ := ⟨_, rfl⟩
        have bV : Blk V g (dc Dn qn) 42 := by rw [hV, hDn, hqn]; exact b7.setC 6 _
        have kpV : Kp (fun j => j = g) wr V := by rw [hV]; exact Kp.of_grown (but_set _ _ _ _)
        have b2V := kpV.blk b2x (by omega)
        have kV := below_kp kx kpV kx.size (fun j hj e => by omega)
        have rV : RD (fun j => B j ∧ j ≠ g) V Dn qn := (by have h1 := hrx.kp kpV (fun j hj e => hj.2 e); rw [hDn, hqn]; exact ⟨h1.safe, Sl.nil _ _ _ _, h1.seen, h1.plot⟩)
        have HSE : Hid (Dn.seen.length + 1 ≤ 1000000) := by rw [hDn]; show (dk q1.ln).seen.length + 1 ≤ _; rw [(HDL.out q1.ln).2]; exact HLN.out.2.2
        rw [← hDn] at HR
        have WV : Hid (V = wr.setCell ⟨g, 6, none⟩ (.slice none 0 0)) := hV
        have lV := bV.lt
        clear hDn hqn kpV b7 b2x hrx hsl kx hV
        have bV2 : Blk (wr.setCell ⟨g, 6, none⟩ (.slice none 0 0)) g (dc Dn qn) 42 := by rw [← WV.out]; exact bV
        go_wp2_with ((with_reducible refine at_ld 42 ?_); (refine ld 42 (.tmp 4) 10 size40 _ Tryz.underlying42 rfl g 0 (dc Dn qn) rfl bV2.whole rfl ?_))
        rw [← WV.out]
        clear bV2
        refine (rSee V rV (fun j hj => ⟨hnew.out j (by omega), by omega⟩) 2 (-1) (by unfold i64; omega) (by unfold i64; omega) (B5.nil _ _) HSE.out).mono ?_
        rintro e v4 ⟨q2, rfl, hr4, hv4⟩
        have b7v := bV.below hv4 bV.lt
        have b2v := b2V.below hv4 b2V.lt
        have kv4 := kV.trans (Below.mono hv4 kV.size)
        obtain ⟨D2, hD2⟩ : ∃ D2, D2 = Dn.see (2, -1, []) := ⟨_, rfl⟩
        rw [← hD2] at HR hr4 ⊢
        clear hD2 bV b2V kV rV hv4 HSE WV lV f6 z6
        unfold dv
        go_wp2_with ((with_reducible refine at_st 42 ?_); (refine st' 42 (.tmp 4) (.tmp 39) 10 size40 g 0 (dc D2 q2) rfl (dc_one _ _) (b7v.there 0 10 (by simp [dc])) rfl rfl ?_); intro v5 hv5; have b7 : Blk v5 g (dc D2 q2) 42 := (by rw [hv5]; exact b7v.setsW _ rfl); have q5 : Kp (fun j => j = g) v4 v5 := (by rw [hv5]; exact Kp.of_grown (but_cells _ _ _ _)); have b2x : Blk v5 (w.heap.size + 1) z40 42 := q5.blk b2v (by omega); have hrx := hr4.kp q5 (fun j hj e => hj.2 e); have kx := below_kp kv4 q5 kv4.size (fun j hj e => by omega); clear hv5)
        refine regionE 3 (S := Grows v5) (by kernel_rfl) (Below.refl _ v5).drew ?_
        refine takeT 0 (some 40) (dv D2 q2) rfl rfl (by kernel_rfl) (fun _ _ _ h => h) (ans_row 42 (.tmp 4) _ 10 rfl (by rfl) g 0 rfl (dc D2 q2) (fun w h => (b7.below h b7.lt).whole) Tryz.underlying42 rfl rfl size40) ?_
        simp only [Act.put, List.setIfInBounds_toArray, List.set_cons_zero, List.set_cons_succ]
        refine takeT 1 (some 41) (.bool ok) rfl rfl (by kernel_rfl) (fun _ _ _ h => h) (ans_plain (by rfl) (fun w _ => rfl)) ?_
        simp only [Act.put, List.setIfInBounds_toArray, List.set_cons_zero, List.set_cons_succ]
        refine takeT 2 (some 42) (.int .i64 cd) rfl rfl (by kernel_rfl) (fun _ _ _ h => h) (ans_call 80 #[.tmp 41] #[4] #[.bool ok] rfl (by rfl) (by rfl) Tryz.call80 fun u h => (CA.out u).mono fun e u' ⟨he, hw⟩ => ⟨he, by rw [← hw]; exact Grows.refl _, by rw [← hw]; exact h⟩) ?_
        simp only [Act.put, List.setIfInBounds_toArray, List.set_cons_zero, List.set_cons_succ]
        refine goE (by kernel_rfl) (by kernel_rfl) (by kernel_rfl) fun u3 hg3 hs3 => ?_
        refine opStR 3 42 (.tmp 2) (.tmp 40) 10 rfl rfl rfl rfl (w.heap.size + 1) z40 (dc D2 q2) _ (b2x.below hs3 b2x.lt) rfl rfl (dc_one _ _) size40 rfl rfl fun u4 b4 q4 => ?_
        refine takeP 4 (some 3) (.int .i64 cd) rfl rfl (by kernel_rfl) (fun _ _ _ h => h) (by rfl) (fun w => by unfold execOp; go_simp) ?_
        simp only [Act.put, List.setIfInBounds_toArray, List.set_cons_zero, List.set_cons_succ]
        refine endE (by kernel_rfl) fun u5 hg5 => ?_
        have r3 := hrx.below hs3
        have r4 := r3.kp q4 (fun j hj e => hn.out j hj.1 (by omega))
        have r5 := (r4.below hg5).mono (fun j _ hb => hm.out j hb.1)
        have b5 := b4.below hg5 b4.lt
        have k3 := kx.trans (Below.mono hs3 kx.size)
        have k4 := below_kp k3 q4 k3.size (fun j hj e => by omega)
        have k5 := k4.trans (Below.mono hg5 k4.size)
        clear r3 r4 k3 k4 q4 b4 hs3 hg3 hg5
        go_wp2_with fail
        exact bodyPost_ret (v := .tuple #[dv D2 q2, .int .i64 cd]) (res2 Tryz.results42 _ _ (w.heap.size + 1) (dc D2 q2).toArray rfl (run_loadVar_row u5 (w.heap.size + 1) 42 42 (dc D2 q2).toArray (0, 0) _ b5 Tryz.underlying42 rfl size40) _ rfl) rfl ⟨q2, by rw [HR.out], by rw [HR.out]; exact r5, k5⟩
  | false =>
    rw [if_neg (show ¬ (false = true) by simp)] at HR
    go_wp2_with ((with_reducible refine at_st 42 ?_); (refine st' 42 (.tmp 4) (.tmp 12) 10 size40 v1.heap.size 0 (dc D1 q1) rfl (dc_one _ _) (by rw [← hg]; exact z7.there 0 10 (by simp [z40])) rfl rfl ?_); intro v3 hv3; have b7 : Blk v3 g (dc D1 q1) 42 := (by rw [hv3, ← hg]; exact z7.setsW _ rfl); have k3 : Below v1.heap.size v1 v3 := (by rw [hv3]; exact below_sets (Nat.le_refl _) _ k7 0); have b2x : Blk v3 (w.heap.size + 1) z40 42 := (by rw [hv3]; exact b2a.setsO (by omega) _ 0); have hrx := hrC.below k3; have kx := kv.trans (k3.mono kv.size); have f6 : v3.cell? ⟨v1.heap.size, 6, none⟩ = some (.slice q1.la q1.ln q1.lc) := (by rw [← hg]; exact b7.cell 6); have l7 : v1.heap.size < v3.heap.size := (by rw [← hg]; exact b7.lt); clear hv3)
    rw [← hg]
    refine regionE 3 (S := Grows v3) (by kernel_rfl) (Below.refl _ v3).drew ?_
    refine takeT 0 (some 40) (dv D1 q1) rfl rfl (by kernel_rfl) (fun _ _ _ h => h) (ans_row 42 (.tmp 4) _ 10 rfl (by rfl) g 0 rfl (dc D1 q1) (fun w h => (b7.below h b7.lt).whole) Tryz.underlying42 rfl rfl size40) ?_
    simp only [Act.put, List.setIfInBounds_toArray, List.set_cons_zero, List.set_cons_succ]
    refine takeT 1 (some 41) (.bool ok) rfl rfl (by kernel_rfl) (fun _ _ _ h => h) (ans_plain (by rfl) (fun w _ => rfl)) ?_
    simp only [Act.put, List.setIfInBounds_toArray, List.set_cons_zero, List.set_cons_succ]
    refine takeT 2 (some 42) (.int .i64 cd) rfl rfl (by kernel_rfl) (fun _ _ _ h => h) (ans_call 80 #[.tmp 41] #[4] #[.bool ok] rfl (by rfl) (by rfl) Tryz.call80 fun u h => (CA.out u).mono fun e u' ⟨he, hw⟩ => ⟨he, by rw [← hw]; exact Grows.refl _, by rw [← hw]; exact h⟩) ?_
    simp only [Act.put, List.setIfInBounds_toArray, List.set_cons_zero, List.set_cons_succ]
    refine goE (by kernel_rfl) (by kernel_rfl) (by kernel_rfl) fun u3 hg3 hs3 => ?_
    refine opStR 3 42 (.tmp 2) (.tmp 40) 10 rfl rfl rfl rfl (w.heap.size + 1) z40 (dc D1 q1) _ (b2x.below hs3 b2x.lt) rfl rfl (dc_one _ _) size40 rfl rfl fun u4 b4 q4 => ?_
    refine takeP 4 (some 3) (.int .i64 cd) rfl rfl (by kernel_rfl) (fun _ _ _ h => h) (by rfl) (fun w => by unfold execOp; go_simp) ?_
    simp only [Act.put, List.setIfInBounds_toArray, List.set_cons_zero, List.set_cons_succ]
    refine endE (by kernel_rfl) fun u5 hg5 => ?_
    have r3 := hrx.below hs3
    have r4 := r3.kp q4 (fun j hj e => hn.out j hj.1 (by omega))
    have r5 := (r4.below hg5).mono (fun j _ hb => hm.out j hb.1)
    have b5 := b4.below hg5 b4.lt
    have k3 := kx.trans (Below.mono hs3 kx.size)
    have k4 := below_kp k3 q4 k3.size (fun j hj e => by omega)
    have k5 := k4.trans (Below.mono hg5 k4.size)
    clear r3 r4 k3 k4 q4 b4 hs3 hg3 hg5
    go_wp2_with fail
    exact bodyPost_ret (v := .tuple #[dv D1 q1, .int .i64 cd]) (res2 Tryz.results42 _ _ (w.heap.size + 1) (dc D1 q1).toArray rfl (run_loadVar_row u5 (w.heap.size + 1) 42 42 (dc D1 q1).toArray (0, 0) _ b5 Tryz.underlying42 rfl size40) _ rfl) rfl ⟨q1, by rw [HR.out], by rw [HR.out]; exact r5, k5⟩

end Go.Proofs.YtlenmkhmkommcaaGreat

/-
  Blocks of memory that are known whole ('Blk'): a variable of a call's own. What is read of them, and what stores make of them; whole arrays loaded and stored. No condition; no statement of the seat is proved here.
-/
namespace Go.Proofs.YtlenmkhmkommcaaGreat
open Go.RowKit

/-- A row of bytes as an array value. -/
def bv (l : List UInt8) : Value := .agg (cs l).toArray

/-- The bytes that lie in a block from o on, as a slice. -/
theorem Blk.bs {w : World} {g : Nat} {vs : List Value} {t : TypeId} (h : Blk w g vs t) (o c : Nat) (l : List UInt8) (hl : ∀ j v, (cs l)[j]? = some v → vs[o + j]? = some v) (hc : l.length ≤ c) (hm : c ≤ 1000000) : Bs w (some ⟨g, o, none⟩) l.length c l := by
  refine ⟨rfl, hc, by unfold maxLen; omega, by simp, fun i hi => ⟨g, o, rfl, ?_⟩⟩
  rw [h.cell]
  exact hl i _ (cs_get hi)

theorem cs_sub {b : List UInt8} {o n j : Nat} {v : Value} (h : (cs ((b.drop o).take n))[j]? = some v) : (cs b)[o + j]? = some v := by
  simp only [cs, List.getElem?_map, List.getElem?_take, List.getElem?_drop] at h ⊢
  by_cases hj : j < n
  · simpa [hj] using h
  · simp [hj] at h

end Go.Proofs.YtlenmkhmkommcaaGreat

/-
  Rows of bools in memory: what a slice of bools holds ('Bo'), rows that a call made itself ('OwnB'), append and make over them. No condition; no statement of the seat is proved here.
-/
namespace Go.Proofs.YtlenmkhmkommcaaGreat
open Go.RowKit

/-- Bools as cells. -/
def bo (l : List Bool) : List Value := l.map .bool
theorem bo_length (l : List Bool) : (bo l).length = l.length := by simp [bo]
theorem bo_get {l : List Bool} {i : Nat} (h : i < l.length) : (bo l)[i]? = some (.bool (l.getD i false)) := by
  simp [bo, h, List.getD_eq_getElem?_getD]
/-- The slice (a, n, c) holds the bools l. -/
def Bo (w : World) (a : Option Addr) (n c : Nat) (l : List Bool) : Prop :=
  l.length = n ∧ n ≤ c ∧ c ≤ maxLen ∧ (a = none → c = 0) ∧ ∀ i, i < n → ∃ b o, a = some ⟨b, o, none⟩ ∧ w.cell? ⟨b, o + i, none⟩ = some (.bool (l.getD i false))
theorem Bo.len {w : World} {a : Option Addr} {n c : Nat} {l : List Bool} (h : Bo w a n c l) : l.length = n := h.1
theorem Bo.cap {w : World} {a : Option Addr} {n c : Nat} {l : List Bool} (h : Bo w a n c l) : n ≤ c := h.2.1
theorem Bo.at {w : World} {a : Option Addr} {n c : Nat} {l : List Bool} (h : Bo w a n c l) (hn : 0 < n) :
    ∃ b o, a = some ⟨b, o, none⟩ ∧ b < w.heap.size ∧ ∀ i, i < n → w.cell? ⟨b, o + i, none⟩ = some (.bool (l.getD i false)) := by
  obtain ⟨b, o, ha, hc⟩ := h.2.2.2.2 0 hn
  refine ⟨b, o, ha, lt_of_cell hc, fun i hi => ?_⟩
  obtain ⟨b', o', ha', hc'⟩ := h.2.2.2.2 i hi
  rw [ha] at ha'
  simp at ha'
  obtain ⟨rfl, rfl⟩ := ha'
  exact hc'
theorem Bo.below {w w' : World} {a : Option Addr} {n c : Nat} {l : List Bool} (h : Bo w a n c l) {B : Nat} (hb : Below B w w') (hB : w.heap.size ≤ B) : Bo w' a n c l := by
  refine ⟨h.1, h.2.1, h.2.2.1, h.2.2.2.1, fun i hi => ?_⟩
  obtain ⟨b, o, ha, hc⟩ := h.2.2.2.2 i hi
  refine ⟨b, o, ha, ?_⟩
  rw [hb.cell (p := ⟨b, o + i, none⟩) (by have := lt_of_cell hc; simp at this ⊢; omega)]
  exact hc
theorem Bo.setO {w : World} {a : Option Addr} {n c : Nat} {l : List Bool} (h : Bo w a n c l) {p : Addr} (hp : ∀ x, a = some x → x.block ≠ p.block) (u : Value) : Bo (w.setCell p u) a n c l := by
  refine ⟨h.1, h.2.1, h.2.2.1, h.2.2.2.1, fun i hi => ?_⟩
  obtain ⟨b, o, ha, hc⟩ := h.2.2.2.2 i hi
  have hne : b ≠ p.block := hp _ ha
  refine ⟨b, o, ha, ?_⟩
  rw [World.cell?_of_block (w := w) (a := ⟨b, o + i, none⟩) (Below.heap_setCell _ _ _ _ hne)]
  exact hc
theorem Blk.bo {w : World} {g : Nat} {l : List Bool} {t : TypeId} (h : Blk w g (bo l) t) (hm : l.length ≤ 1000000) : Bo w (some ⟨g, 0, none⟩) l.length l.length l :=
  ⟨rfl, Nat.le_refl _, by unfold maxLen; omega, by simp, fun i hi => ⟨g, 0, rfl, by rw [Nat.zero_add, h.cell, bo_get hi]⟩⟩
/-- The value v is a slice of the bools l, in memory of the call's own from block 'base' on. -/
def OwnB (w : World) (base : Nat) (v : Value) (l : List Bool) : Prop := w.ownsRow base 4 1 v l.length (bo l)
theorem OwnB.nil (w : World) (base : Nat) : OwnB w base (.slice none 0 0) [] := World.ownsRow_nil _ _ _ _
theorem OwnB.below {w w' : World} {base B : Nat} {v : Value} {l : List Bool} (h : OwnB w base v l) (hb : Below B w w') (hB : w.heap.size ≤ B) : OwnB w' base v l := by
  obtain ⟨h1, h2⟩ := h
  refine ⟨h1, ?_⟩
  rcases h2 with h2 | ⟨g, cap, cur, hv, hg, hh, r⟩
  · exact Or.inl h2
  · refine Or.inr ⟨g, cap, cur, hv, hg, ?_, r⟩
    have hlt : g < w.heap.size := by
      by_cases e : g < w.heap.size
      · exact e
      · rw [Array.getElem?_eq_none (by omega)] at hh; simp at hh
    rw [hb.block g (by omega)]
    exact hh
theorem OwnB.size {w : World} {base : Nat} {v : Value} {l : List Bool} (h : OwnB w base v l) : ∀ k, v.ownBlock = some k → base ≤ k := fun k hk => (World.ownsRow.lt h k hk).1
/-- What is owned is a slice of bools. -/
theorem OwnB.bo {w : World} {base : Nat} {v : Value} {l : List Bool} (h : OwnB w base v l) : ∃ a c, v = .slice a l.length c ∧ Bo w a l.length c l ∧ ∀ x, a = some x → base ≤ x.block := by
  have h' := h
  obtain ⟨h1, h2⟩ := h
  rcases h2 with ⟨rfl, h0⟩ | ⟨g, cap, cur, rfl, hg, hh, hn, hm, r⟩
  · have e : l = [] := List.length_eq_zero_iff.1 h0
    subst e
    exact ⟨none, 0, rfl, ⟨rfl, Nat.le_refl _, Nat.zero_le _, fun _ => rfl, fun i hi => by simp at hi⟩, fun x hx => by simp at hx⟩
  · refine ⟨_, cap, rfl, ⟨rfl, hn, hm, by simp, fun i hi => ⟨g, 0, rfl, ?_⟩⟩, fun x hx => by simp only [Option.some.injEq] at hx; subst hx; exact hg⟩
    have := World.ownsRow.cellAt h' i (by omega)
    rw [bo_get hi] at this
    simpa using this
theorem Bo.news {w : World} {ad : Addr} {m c : Nat} {l : List Bool} (h : Bo w (some ad) m c l) (j : Nat) (u : Value) (hj : (Go.Proofs.YtlenmkhmkommcaaGreat.bo l)[j]? = some u) : w.cell? (ad.add j) = some u := by
  have hl := h.len
  by_cases hjl : j < l.length
  · rw [bo_get hjl] at hj
    obtain ⟨b, o, ha, hc⟩ := h.2.2.2.2 j (by omega)
    simp only [Option.some.injEq] at ha
    subst ha
    rw [Addr.add_mid, hc]
    exact hj
  · rw [List.getElem?_eq_none (by rw [bo_length]; omega)] at hj
    simp at hj

/-- What a call that hands back bools in new memory leaves. -/
def GivesB (w : World) (l : List Bool) (e : Ending) (w' : World) : Prop := ∃ a c, e = .returned (.slice a l.length c) ∧ Bo w' a l.length c l ∧ (∀ x, a = some x → w.heap.size ≤ x.block) ∧ Below w.heap.size w w'
theorem GivesB.mk {w w' : World} {v : Value} {l : List Bool} (h : OwnB w' w.heap.size v l) (hb : Below w.heap.size w w') : GivesB w l (.returned v) w' := by
  obtain ⟨a, c, rfl, hB, hx⟩ := h.bo
  exact ⟨a, c, rfl, hB, hx, hb⟩
end Go.Proofs.YtlenmkhmkommcaaGreat
