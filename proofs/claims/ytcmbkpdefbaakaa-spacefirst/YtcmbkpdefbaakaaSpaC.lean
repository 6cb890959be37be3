/-
  Contracts of layer 15's program, on: Clone, Copy, New. Conditions: none but that the space may be.
-/
import Derived.Test.YtcmbkpdefbaakaaSpaQ
import Derived.Test.YtcmbkpdefbaakaaGrowT
namespace Go.Proofs.Ytcmbkpdefbaakaa
open Go.RowKit

theorem eqSomeBo (w : World) (x : Addr) (n c : Nat) : Sem.run Try.prog (binOp .eql 28 (.slice (some x) n c) (.slice none 0 0)) w = .ok (.bool false) w := by kernel_rfl
theorem OwnB.lit0 (w : World) : OwnB (w.alloc (.cells #[] 4)) w.heap.size (.slice (some ⟨w.heap.size, 0, none⟩) 0 0) [] := by
  unfold OwnB
  exact World.ownsRow_lit w #[] 0 (Nat.le_refl _) (by unfold maxLen; omega) (by simp)
set_option maxRecDepth 100000 in
theorem oCloneBo (w : World) {x : Addr} {n c : Nat} {l : List Bool} (h : Bo w (some x) n c l) (hn : n ≤ 1000000) : Calls Try.prog 21 #[.slice (some x) n c] w fun e w' => ∃ v, e = .returned v ∧ OwnB w' w.heap.size v l ∧ Below w.heap.size w w' := by
  have hl := h.len
  have H : Hid (Bo (w.alloc (.cells #[] 4)) (some x) n c l) := h.below (below_alloc _ _) (Nat.le_refl _)
  have H0 : Hid (OwnB (w.alloc (.cells #[] 4)) w.heap.size (.slice (some ⟨w.heap.size, 0, none⟩) 0 0) []) := OwnB.lit0 w
  clear h
  have hq := eqSomeBo
  go_enter Try.func21, Try.ntmps21
  go_wp2_with (at_builtin; refine wpList_bapp _ rfl (.tmp 5) (.tmp 6) rfl w.heap.size _ [] rfl H0.out x n c l rfl H.out (by simp; omega) (by simp) ?_; intro v1 w1 o1 b1)
  go_ret
  rw [List.nil_append] at o1
  exact ⟨v1, rfl, o1, (below_alloc _ _).trans b1⟩
/-- A row of the call's own, and what lies behind it. -/
theorem OwnB.blk {w : World} {base : Nat} {v : Value} {l : List Bool} (h : OwnB w base v l) (hl : 1 ≤ l.length) : ∃ g z, v = .slice (some ⟨g, 0, none⟩) l.length (l.length + z.length) ∧ base ≤ g ∧ Blk w g (Go.Proofs.Ytcmbkpdefbaakaa.bo l ++ z) 4 ∧ l.length + z.length ≤ maxLen := by
  rcases h.2 with ⟨_, h0⟩ | ⟨g, cap, cur, hv, hg, hh, hn, hm, hc, ht⟩
  · omega
  · rw [Nat.mul_one] at hc ht
    have e : cur.toList = Go.Proofs.Ytcmbkpdefbaakaa.bo l ++ cur.toList.drop l.length := by
      rw [← ht]
      exact (List.take_append_drop _ _).symm
    have ez : (cur.toList.drop l.length).length = cap - l.length := by rw [List.length_drop, Array.length_toList, hc]
    refine ⟨g, cur.toList.drop l.length, ?_, hg, ?_, by rw [ez]; omega⟩
    · rw [hv, ez, show l.length + (cap - l.length) = cap from by omega]
    · unfold Blk
      rw [← e, hh]

/-- A space that was just made. -/
theorem Sp.made {S : SpS} (ok : S.ok) (u : World) {g : Nat} {z : List Value} (hb : Blk u g (Go.Proofs.Ytcmbkpdefbaakaa.bo S.l ++ z) 4) (hz : S.l.length + z.length ≤ maxLen) : Sp (u.alloc (.cells #[.slice (some ⟨g, 0, none⟩) S.l.length (S.l.length + z.length), .int .i64 (S.first : Int)] 51)) u.heap.size g S := by
  have := hb.lt
  exact ⟨ok, by omega, z, Blk.new u _ _, hb.old _, hz⟩

set_option maxRecDepth 100000 in
set_option maxHeartbeats 1000000 in
theorem oZCopy (w : World) {s t : Nat} {S : SpS} (h : Sp w s t S) : Calls Try.prog 9 #[.pointer (some ⟨s, 0, none⟩)] w fun e w' => ∃ s' t', e = .returned (.pointer (some ⟨s', 0, none⟩)) ∧ Sp w' s' t' S ∧ w.heap.size ≤ s' ∧ w.heap.size ≤ t' ∧ Below w.heap.size w w' := by
  have hl := h.lt
  have hok : Hid S.ok := h.ok
  have h2 := h.ok.n2
  have h1 := h.ok.n1
  obtain ⟨c, c0, hb⟩ := h.bo
  have c1 := h.c1
  have HB : Hid (Bo w (some ⟨t, 0, none⟩) S.l.length c S.l) := hb
  have F0 : ∀ u, Grows w u → u.cell? ⟨s, 0, none⟩ = some (.slice (some ⟨t, 0, none⟩) S.l.length c) := fun u k => by rw [Below.cell k (p := ⟨s, 0, none⟩) hl]; exact c0
  have F1 : ∀ u, Grows w u → u.cell? ⟨s, 1, none⟩ = some (.int .i64 (S.first : Int)) := fun u k => by rw [Below.cell k (p := ⟨s, 1, none⟩) hl]; exact c1
  have hlt : ∀ u, Grows w u → s < u.heap.size := fun u k => Nat.lt_of_lt_of_le hl (Below.size k)
  clear h hb
  go_enter Try.func9, Try.ntmps9
  go_wp2_with fail
  have HC : Hid (∀ u, Grows w u → Calls Try.prog 21 #[.slice (some ⟨t, 0, none⟩) S.l.length c] u fun e w' => ∃ v, e = .returned v ∧ OwnB w' u.heap.size v S.l ∧ Below u.heap.size u w') := fun u k => oCloneBo u (HB.out.below k (Nat.le_refl _)) (by omega)
  have H1 : Hid (1 ≤ S.l.length) := h1
  clear h1
  have HR : Hid (∀ (u : World) (g : Nat) (z : List Value), Blk u g (Go.Proofs.Ytcmbkpdefbaakaa.bo S.l ++ z) 4 → S.l.length + z.length ≤ maxLen → Sp (u.alloc (.cells #[.slice (some ⟨g, 0, none⟩) S.l.length (S.l.length + z.length), .int .i64 (S.first : Int)] 51)) u.heap.size g S) := fun u g z hb hz => Sp.made hok.out u hb hz
  generalize (S.first : Int) = f at *
  have c0' : w.drew.cell? ⟨s, 0, none⟩ = some (.slice (some ⟨t, 0, none⟩) S.l.length c) := c0
  have c1' : w.drew.cell? ⟨s, 1, none⟩ = some (.int .i64 f) := c1
  go_region_with (go_at_call 21; go_must (refine (HC.out _ (Below.refl _ w).drew).mono ?_); rintro e w1 ⟨v, rfl, ho, hg⟩; obtain ⟨g, z, rfl, hgs, hbg, hz⟩ := ho.blk H1.out; have d1 := F1 w1 (Grows.trans (Below.refl _ w).drew hg); have d2 := hlt w1 (Grows.trans (Below.refl _ w).drew hg))
  all_goals
    have HBG : Hid (Blk w1 g (Go.Proofs.Ytcmbkpdefbaakaa.bo S.l ++ z) 4) := hbg
    have HZ : Hid (S.l.length + z.length ≤ maxLen) := hz
    have HGS : Hid (w.heap.size ≤ g) := hgs
    have HG : Hid (Below w.heap.size w w1) := Grows.trans (Below.refl _ w).drew hg
    clear hbg hz hgs hg ho
    go_wp2_with fail
    go_ret
    exact ⟨w1.heap.size, g, rfl, HR.out w1 g z HBG.out HZ.out, HG.out.size, HGS.out, HG.out.alloc HG.out.size _⟩

set_option maxRecDepth 100000 in
set_option maxHeartbeats 1000000 in
theorem oZNew (w : World) (n f : Nat) (h1 : 1 ≤ n) (h2 : n ≤ 4096) (h3 : f ≤ n) : Calls Try.prog 7 #[.int .i64 (n : Int), .int .i64 (f : Int)] w fun e w' => ∃ s t, e = .returned (.tuple #[.pointer (some ⟨s, 0, none⟩), .int .i64 0]) ∧ Sp w' s t (SpS.new n f) ∧ w.heap.size ≤ s ∧ w.heap.size ≤ t ∧ Below w.heap.size w w' := by
  have i1 : ¬ (n : Int) < 1 := by omega
  have i2 : ¬ (4096 : Int) < (n : Int) := by omega
  have i3 : ¬ (f : Int) < 0 := by omega
  have i4 : ¬ (n : Int) < (f : Int) := by omega
  have HO : Hid (SpS.mk f (List.replicate n false)).ok := ⟨by show 1 ≤ (List.replicate n false).length; rw [List.length_replicate]; exact h1, by show (List.replicate n false).length ≤ _; rw [List.length_replicate]; exact h2, by show _ ≤ (List.replicate n false).length; rw [List.length_replicate]; exact h3⟩
  have HF : Hid (f ≤ n) := h3
  clear h3
  go_enter Try.func7, Try.ntmps7
  go_wp2_with (at_make; refine wpList_bmk _ rfl _ _ rfl n (n : Int) rfl rfl rfl (by omega) ?_; intro g w1 hgs hbg hg)
  have hS : Sp (w1.alloc (.cells #[.slice (some ⟨g, 0, none⟩) n n, .int .i64 (f : Int)] 51)) w1.heap.size g ⟨f, List.replicate n false⟩ := by
    have := Sp.made (z := []) HO.out w1 (g := g) (by rw [List.append_nil]; exact hbg) (by show (List.replicate n false).length + 0 ≤ maxLen; rw [List.length_replicate]; unfold maxLen; omega)
    dsimp only at this
    rw [List.length_replicate] at this
    exact this
  have hSet := oZSet _ hS 0 f true (by dsimp only; rw [List.length_replicate, Nat.zero_add]; exact HF.out)
  dsimp only at hSet
  rw [new_put] at hSet
  have hb1 : Below w.heap.size w (w1.alloc (.cells #[.slice (some ⟨g, 0, none⟩) n n, .int .i64 (f : Int)] 51)) := hg.alloc hg.size _
  have hsz := hg.size
  have HX : Hid (w.heap.size ≤ w1.heap.size) := hsz
  clear hS hbg hg hsz
  generalize w1.alloc (.cells #[.slice (some ⟨g, 0, none⟩) n n, .int .i64 (f : Int)] 51) = w2 at *
  refine hSet.mono ?_
  rintro e w3 ⟨rfl, hS, hK⟩
  have HB : Hid (Below w.heap.size w w3) := below_kp hb1 hK hb1.size (fun k hk e => by omega)
  clear hSet hK hb1
  go_wp2_with fail
  exact bodyPost_ret (v := .tuple #[.pointer (some ⟨w1.heap.size, 0, none⟩), .int .i64 0]) (by simp [results, Try.results7, go_sem]) rfl ⟨_, g, rfl, hS, HX.out, hgs, HB.out⟩
/-- Numbers that no space has. -/
theorem oZNewNot (w : World) (n f : Int) (h : n < 1 ∨ 4096 < n ∨ f < 0 ∨ n < f) : Calls Try.prog 7 #[.int .i64 n, .int .i64 f] w fun e w' => e = .returned (.tuple #[.pointer none, .int .i64 2]) ∧ w = w' := by
  by_cases i1 : n < 1
  · clear h
    go_enter Try.func7, Try.ntmps7
    go_wp2_with fail
    exact bodyPost_ret (v := .tuple #[.pointer none, .int .i64 2]) (by simp [results, Try.results7, go_sem]) rfl ⟨rfl, rfl⟩
  · by_cases i2 : 4096 < n
    · clear h
      go_enter Try.func7, Try.ntmps7
      go_wp2_with fail
      exact bodyPost_ret (v := .tuple #[.pointer none, .int .i64 2]) (by simp [results, Try.results7, go_sem]) rfl ⟨rfl, rfl⟩
    · by_cases i3 : f < 0
      · clear h
        go_enter Try.func7, Try.ntmps7
        go_wp2_with fail
        exact bodyPost_ret (v := .tuple #[.pointer none, .int .i64 2]) (by simp [results, Try.results7, go_sem]) rfl ⟨rfl, rfl⟩
      · have i4 : n < f := by omega
        clear h
        go_enter Try.func7, Try.ntmps7
        go_wp2_with fail
        exact bodyPost_ret (v := .tuple #[.pointer none, .int .i64 2]) (by simp [results, Try.results7, go_sem]) rfl ⟨rfl, rfl⟩

end Go.Proofs.Ytcmbkpdefbaakaa
