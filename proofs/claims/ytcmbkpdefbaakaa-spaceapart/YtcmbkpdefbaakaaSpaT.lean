/-
  The contract of layer 15's reference's set. Conditions: none but that the space may be, and numbers of the language.
-/
import Derived.Test.YtcmbkpdefbaakaaSpaS
import Derived.Deep.RegionLaw
import Derived.BigRegion
namespace Go.Proofs.Ytcmbkpdefbaakaa
open Go.RowKit

/-- append of bools as one step of a region that draws its order. -/
theorem step_bapp {ops : Array Oper} {o : Oper} {a : Act} {w : World} {K : Act → World → Prop} {Q : Exit → Act → World → Prop} {E : Prop} (hgd : o.guard = none) (s x : Operand)
    (ho : o.op = Op.call { callee := Callee.builtin Builtin.append, args := #[s, x], argTypes := #[28, 28] }) (base : Nat) (v : Value) (l : List Bool) (hs : a.eval s = v) (hown : OwnB w base v l)
    (ad : Addr) (m c : Nat) (news : List Bool) (hx : a.eval x = .slice (some ad) m c) (hb : Bo w (some ad) m c news) (hz : l.length + news.length ≤ 1000000000) (hbase : base ≤ w.heap.size)
    (h : ∀ v' w', OwnB w' base v' (l ++ news) → Below base w w' → K (a.put o.dst v') w') : if Region.wanted o (yielded ops a.tmps) = true then Oper.wp Try.prog o a w K Q else E := by
  have hw : Region.wanted o (yielded ops a.tmps) = true := by simp [Region.wanted, hgd]
  rw [if_pos hw]
  obtain ⟨i0, hi, hz0, hz1, hz2⟩ := info_parts infoB
  have hl := hb.len
  refine wp_append_own w s x 28 ho base 4 i0 (.bool false) 1 1 Try.underlying28 hi hz0 hz1 hz2 rfl (by decide) v _ _ hs hown ad m c (bo news) hx (by rw [bo_length]; omega) hb.news bo_one (by unfold maxLen; omega) (by omega) hbase ?_
  intro v' w' ho' hg _
  refine h v' w' ?_ ((Below.refl _ _).grown hg hbase (OwnB.size hown))
  unfold OwnB
  rw [bo_append, List.length_append, hl]
  exact ho'

set_option maxRecDepth 100000 in
set_option maxHeartbeats 2000000 in
theorem rSet15Not (w : World) {A : Nat → Prop} {S : SpS} {p : Option Addr} {c : Nat} (h : RZ A w S p c) (ok : S.ok) (a n : Int) (hn : ¬ S.has a n) (b : Bool) (wrong : Int) : Calls Try.prog 24 #[.agg (zc S p c).toArray, .int .i64 a, .int .i64 n, .bool b, .int .i64 wrong] w fun e w' => ∃ p' c', e = .returned (.tuple #[.agg (zc S p' c').toArray, .int .i64 2]) ∧ RZ A w' S p' c' ∧ Below w.heap.size w w' := by
  have h2 := ok.n2
  have key : Hid (∀ u, Below w.heap.size w u → ∃ p' c', (.returned (.tuple #[.agg (zc S p c).toArray, .int .i64 2]) : Ending) = .returned (.tuple #[.agg (zc S p' c').toArray, .int .i64 2]) ∧ RZ A u S p' c' ∧ Below w.heap.size w u) := fun u hu => ⟨p, c, rfl, h.grow hu, hu⟩
  have i4 : n < 1 ∨ (S.l.length : Int) < n ∨ a < (S.first : Int) ∨ (S.l.length : Int) - n < a := by
    by_cases j1 : n < 1
    · exact Or.inl j1
    · by_cases j2 : a < (S.first : Int)
      · exact Or.inr (Or.inr (Or.inl j2))
      · by_cases j3 : (S.l.length : Int) - n < a
        · exact Or.inr (Or.inr (Or.inr j3))
        · exact absurd ⟨by omega, by omega, by omega⟩ hn
  clear h ok hn
  obtain ⟨X, hX⟩ : ∃ X, X = fun e w' => ∃ p' c', e = Ending.returned (.tuple #[.agg (zc S p' c').toArray, .int .i64 2]) ∧ RZ A w' S p' c' ∧ Below w.heap.size w w' := ⟨_, rfl⟩
  have key2 : Hid (∀ u, Below w.heap.size w u → X (.returned (.tuple #[.agg #[.int .i64 (S.first : Int), .slice p S.l.length c], .int .i64 2])) u) := fun u hu => by rw [hX]; exact key.out u hu
  rw [← hX]
  unfold zc
  clear hX key
  have i5 : (S.l.length : Int) ≤ 4096 := by omega
  generalize S.l.length = m at *
  generalize (S.first : Int) = f at *
  by_cases j1 : n < 1
  · go_enter Try.func24, Try.ntmps24
    go_wp2_with fail
    exact bodyPost_ret (v := .tuple #[.agg #[.int .i64 f, .slice p m c], .int .i64 2]) (by simp [results, Try.results24, go_sem]) rfl (key2.out _ (below2 _ _ _))
  · by_cases j2 : (m : Int) < n
    · clear i4
      go_enter Try.func24, Try.ntmps24
      go_wp2_with fail
      exact bodyPost_ret (v := .tuple #[.agg #[.int .i64 f, .slice p m c], .int .i64 2]) (by simp [results, Try.results24, go_sem]) rfl (key2.out _ (below2 _ _ _))
    · by_cases j3 : a < f
      · clear i4
        go_enter Try.func24, Try.ntmps24
        go_wp2_with fail
        exact bodyPost_ret (v := .tuple #[.agg #[.int .i64 f, .slice p m c], .int .i64 2]) (by simp [results, Try.results24, go_sem]) rfl (key2.out _ (below2 _ _ _))
      · have j4 : (m : Int) - n < a := by omega
        clear i4
        go_enter Try.func24, Try.ntmps24
        go_wp2_with fail
        exact bodyPost_ret (v := .tuple #[.agg #[.int .i64 f, .slice p m c], .int .i64 2]) (by simp [results, Try.results24, go_sem]) rfl (key2.out _ (below2 _ _ _))

set_option maxRecDepth 100000 in
set_option maxHeartbeats 2000000 in
theorem rSet15Wrong (w : World) {A : Nat → Prop} {S : SpS} {p : Option Addr} {c : Nat} (h : RZ A w S p c) (ok : S.ok) (a n : Nat) (h1 : 1 ≤ n) (h3 : S.first ≤ a) (h4 : a + n ≤ S.l.length) (b : Bool) (e : allB S.l a n (!b) = false) (wrong : Int) : Calls Try.prog 24 #[.agg (zc S p c).toArray, .int .i64 (a : Int), .int .i64 (n : Int), .bool b, .int .i64 wrong] w fun e w' => ∃ p' c', e = .returned (.tuple #[.agg (zc S p' c').toArray, .int .i64 wrong]) ∧ RZ A w' S p' c' ∧ Below w.heap.size w w' := by
  have h2 := ok.n2
  have key : Hid (∀ u, Below w.heap.size w u → ∃ p' c', (.returned (.tuple #[.agg (zc S p c).toArray, .int .i64 wrong]) : Ending) = .returned (.tuple #[.agg (zc S p' c').toArray, .int .i64 wrong]) ∧ RZ A u S p' c' ∧ Below w.heap.size w u) := fun u hu => ⟨p, c, rfl, h.grow hu, hu⟩
  have HA : Hid (∀ u, Below w.heap.size w u → Calls Try.prog 22 #[.agg (zc S p c).toArray, .int .i64 (a : Int), .int .i64 (n : Int), .bool !b] u fun e w' => e = .returned (.bool false) ∧ Below u.heap.size u w') := fun u hu => by
    have := rAll15 u (h.grow hu) ok a n (!b) h4
    rw [e] at this
    exact this
  clear h ok e
  obtain ⟨X, hX⟩ : ∃ X, X = fun e w' => ∃ p' c', e = Ending.returned (.tuple #[.agg (zc S p' c').toArray, .int .i64 wrong]) ∧ RZ A w' S p' c' ∧ Below w.heap.size w w' := ⟨_, rfl⟩
  have key2 : Hid (∀ u, Below w.heap.size w u → X (.returned (.tuple #[.agg #[.int .i64 (S.first : Int), .slice p S.l.length c], .int .i64 wrong])) u) := fun u hu => by rw [hX]; exact key.out u hu
  rw [← hX]
  unfold zc at *
  clear hX key
  have i5 : (S.l.length : Int) ≤ 4096 := by omega
  have j1 : ¬ (n : Int) < 1 := by omega
  have j2 : ¬ (S.l.length : Int) < (n : Int) := by omega
  have j3 : ¬ (a : Int) < (S.first : Int) := by omega
  have j4 : ¬ (S.l.length : Int) - (n : Int) < (a : Int) := by omega
  generalize S.l.length = m at *
  generalize hf : (S.first : Int) = f at *
  clear hf h1 h3 h4
  have bC : Blk ((w.alloc (.cells #[.int .i64 f, .slice p m c] 30)).alloc (.cells #[.int .i64 0, .slice none 0 0] 30)) w.heap.size [.int .i64 f, .slice p m c] 30 := (Blk.newAt w _ _ w.heap.size rfl _ rfl).old _
  have bR : Blk ((w.alloc (.cells #[.int .i64 f, .slice p m c] 30)).alloc (.cells #[.int .i64 0, .slice none 0 0] 30)) (w.heap.size + 1) [.int .i64 0, .slice none 0 0] 30 := Blk.newAt (w.alloc (.cells #[.int .i64 f, .slice p m c] 30)) _ _ _ (by simp) _ rfl
  have k0 : Below w.heap.size w ((w.alloc (.cells #[.int .i64 f, .slice p m c] 30)).alloc (.cells #[.int .i64 0, .slice none 0 0] 30)) := below2 _ _ _
  cases b
  all_goals
    go_enter Try.func24, Try.ntmps24
    go_wp2_with fail
    refine (HA.out _ k0).mono ?_
    rintro e w1 ⟨rfl, hb⟩
    have bC1 := bC.below hb bC.lt
    have bR1 := bR.below hb bR.lt
    have k1 : Below w.heap.size w w1 := k0.trans (hb.mono (by simp; omega))
    have c0 : w1.cell? ⟨w.heap.size, 0, none⟩ = some (.int .i64 f) := bC1.cell 0
    have c1 : w1.cell? ⟨w.heap.size, 1, none⟩ = some (.slice p m c) := bC1.cell 1
    have y0 : w1.cell? ⟨w.heap.size + 1, 0, none⟩ = some (.int .i64 0) := bR1.cell 0
    have y1 : w1.cell? ⟨w.heap.size + 1, 1, none⟩ = some (.slice none 0 0) := bR1.cell 1
    have z0 := bR1.free 0
    have z1 := bR1.free 1
    have l1 := bR1.lt
    have l0 := bC1.lt
    have H9 : Hid (Blk ((w1.setCell ⟨w.heap.size + 1, 0, none⟩ (.int .i64 f)).setCell ⟨w.heap.size + 1, 1, none⟩ (.slice p m c)) (w.heap.size + 1) [.int .i64 f, .slice p m c] 30) := (bR1.setC 0 (.int .i64 f)).setC 1 (.slice p m c)
    have K9 : Hid (Below w.heap.size w ((w1.setCell ⟨w.heap.size + 1, 0, none⟩ (.int .i64 f)).setCell ⟨w.heap.size + 1, 1, none⟩ (.slice p m c))) := (k1.setCell (p := ⟨w.heap.size + 1, 0, none⟩) (by simp) _).setCell (p := ⟨w.heap.size + 1, 1, none⟩) (by simp) _
    clear bC bR bC1 bR1 k0 k1 hb HA
    go_wp2_with fail
    exact bodyPost_ret (v := .tuple #[.agg #[.int .i64 f, .slice p m c], .int .i64 wrong]) (resZ2 Try.results24 _ _ (w.heap.size + 1) _ rfl (run_loadVar_row _ (w.heap.size + 1) 30 30 _ (0, 0) _ H9.out Try.underlying30 rfl sizeZ) _ rfl) rfl (key2.out _ K9.out)

end Go.Proofs.Ytcmbkpdefbaakaa
