/-
  Contracts of layer 15's reference: set, Mark, Give, Take. Conditions: none but that the space may be, and numbers of the language; for Take that what is taken for good is taken.
-/
import Derived.Test.YtcmbkpdefbaakaaSpaU
namespace Go.Proofs.Ytcmbkpdefbaakaa
open Go.RowKit

theorem rSet15 (w : World) {A : Nat → Prop} {S : SpS} {p : Option Addr} {c : Nat} (hA : ∀ j, w.heap.size ≤ j → A j) (h : RZ A w S p c) (ok : S.ok) (a n : Int) (b : Bool) (wrong : Int) : Calls Try.prog 24 #[.agg (zc S p c).toArray, .int .i64 a, .int .i64 n, .bool b, .int .i64 wrong] w fun e w' => ∃ p' c', e = .returned (.tuple #[.agg (zc (S.run a n b wrong).1 p' c').toArray, .int .i64 (S.run a n b wrong).2]) ∧ RZ A w' (S.run a n b wrong).1 p' c' ∧ Below w.heap.size w w' := by
  by_cases hh : S.has a n
  · obtain ⟨x, m, rfl, rfl, h1, h2, h3⟩ := SpS.has_nat hh
    rw [SpS.run_in hh]
    cases e : allB S.l x m (!b) with
    | true => rw [if_pos rfl]; exact rSet15Do w hA h ok x m h1 h2 h3 b e wrong
    | false => rw [if_neg (by decide)]; exact rSet15Wrong w h ok x m h1 h2 h3 b e wrong
  · rw [SpS.run_not hh]
    exact rSet15Not w h ok a n hh b wrong

/-- Cells of a space. -/
theorem zc_eq (S : SpS) (p : Option Addr) (c : Nat) : (zc S p c).toArray = #[.int .i64 (S.first : Int), .slice p S.l.length c] := rfl

theorem RZ.lt {A : Nat → Prop} {w : World} {S : SpS} {a : Option Addr} {c : Nat} (h : RZ A w S a c) (ok : S.ok) : RZ (fun j => A j ∧ j < w.heap.size) w S a c := by
  obtain ⟨g, o, rfl, hg, _⟩ := h.b.at ok.n1
  exact ⟨h.b, fun x hx => by cases hx; exact ⟨h.p _ rfl, hg⟩⟩
theorem RZ.mono {A B : Nat → Prop} {w : World} {S : SpS} {a : Option Addr} {c : Nat} (h : RZ A w S a c) (hB : ∀ j, A j → B j) : RZ B w S a c := ⟨h.b, fun x hx => hB _ (h.p x hx)⟩
set_option maxRecDepth 100000 in
set_option maxHeartbeats 2000000 in
theorem rMark15 (w : World) {A : Nat → Prop} {S : SpS} {p : Option Addr} {c : Nat} (hA : ∀ j, w.heap.size ≤ j → A j) (h : RZ A w S p c) (ok : S.ok) (a n : Int) : Calls Try.prog 13 #[.agg (zc S p c).toArray, .int .i64 a, .int .i64 n] w fun e w' => ∃ p' c', e = .returned (.tuple #[.agg (zc (S.mark a n).1 p' c').toArray, .int .i64 (S.mark a n).2]) ∧ RZ A w' (S.mark a n).1 p' c' ∧ Below w.heap.size w w' := by
  unfold SpS.mark
  replace h := h.lt ok
  have HC : Hid (∀ u, Below w.heap.size w u → w.heap.size + 2 ≤ u.heap.size → Calls Try.prog 24 #[.agg (zc S p c).toArray, .int .i64 a, .int .i64 n, .bool true, .int .i64 10] u fun e w' => ∃ p' c', e = .returned (.tuple #[.agg (zc (S.run a n true 10).1 p' c').toArray, .int .i64 (S.run a n true 10).2]) ∧ RZ (fun j => A j ∧ j < w.heap.size ∨ w.heap.size + 2 ≤ j) w' (S.run a n true 10).1 p' c' ∧ Below u.heap.size u w') := fun u hu hs =>
    rSet15 u (A := fun j => A j ∧ j < w.heap.size ∨ w.heap.size + 2 ≤ j) (fun j hj => Or.inr (by omega)) ⟨(h.grow hu).b, fun x hx => Or.inl (h.p x hx)⟩ ok a n true 10
  obtain ⟨T, hT⟩ : ∃ T, T = S.run a n true 10 := ⟨_, rfl⟩
  rw [← hT] at HC ⊢
  obtain ⟨T, cd⟩ := T
  dsimp only at HC ⊢
  have key : Hid (∀ u p' c', RZ (fun j => A j ∧ j < w.heap.size ∨ w.heap.size + 2 ≤ j) u T p' c' → Below w.heap.size w u → ∃ p'' c'', (.returned (.tuple #[.agg #[.int .i64 (T.first : Int), .slice p' T.l.length c'], .int .i64 cd]) : Ending) = .returned (.tuple #[.agg (zc T p'' c'').toArray, .int .i64 cd]) ∧ RZ A u T p'' c'' ∧ Below w.heap.size w u) := fun u p' c' hr hu => ⟨p', c', rfl, ⟨hr.b, fun x hx => by rcases hr.p x hx with h | h; exact h.1; exact hA _ (by omega)⟩, hu⟩
  obtain ⟨X, hX⟩ : ∃ X, X = fun e w' => ∃ p' c', e = Ending.returned (.tuple #[.agg (zc T p' c').toArray, .int .i64 cd]) ∧ RZ A w' T p' c' ∧ Below w.heap.size w w' := ⟨_, rfl⟩
  have HX : Hid (∀ u p' c', RZ (fun j => A j ∧ j < w.heap.size ∨ w.heap.size + 2 ≤ j) u T p' c' → Below w.heap.size w u → X (.returned (.tuple #[.agg #[.int .i64 (T.first : Int), .slice p' T.l.length c'], .int .i64 cd])) u) := fun u p' c' hr hu => by rw [hX]; exact key.out u p' c' hr hu
  rw [← hX]
  have HR : Hid (∀ (u v : World) p' c', RZ (fun j => A j ∧ j < w.heap.size ∨ w.heap.size + 2 ≤ j) u T p' c' → Kp (fun j => j = w.heap.size + 1) u v → RZ (fun j => A j ∧ j < w.heap.size ∨ w.heap.size + 2 ≤ j) v T p' c') := fun u v p' c' hr hk => hr.keep hk fun j hj e => by omega
  clear hX key hT h ok hA
  simp only [zc_eq] at HC ⊢
  generalize S.l.length = m at *
  generalize (S.first : Int) = f at *
  obtain ⟨RZT, hRZT⟩ : ∃ RZT : World → Option Addr → Nat → Prop, RZT = fun u p' c' => RZ (fun j => A j ∧ j < w.heap.size ∨ w.heap.size + 2 ≤ j) u T p' c' := ⟨_, rfl⟩
  have HC2 : Hid (∀ u, Below w.heap.size w u → w.heap.size + 2 ≤ u.heap.size → Calls Try.prog 24 #[.agg #[.int .i64 f, .slice p m c], .int .i64 a, .int .i64 n, .bool true, .int .i64 10] u fun e w' => ∃ p' c', e = .returned (.tuple #[.agg #[.int .i64 (T.first : Int), .slice p' T.l.length c'], .int .i64 cd]) ∧ RZT w' p' c' ∧ Below u.heap.size u w') := by rw [hRZT]; exact HC
  have HX2 : Hid (∀ u p' c', RZT u p' c' → Below w.heap.size w u → X (.returned (.tuple #[.agg #[.int .i64 (T.first : Int), .slice p' T.l.length c'], .int .i64 cd])) u) := by rw [hRZT]; exact HX
  have HR2 : Hid (∀ (u v : World) p' c', RZT u p' c' → Kp (fun j => j = w.heap.size + 1) u v → RZT v p' c') := by rw [hRZT]; exact HR
  clear HC HX HR hRZT
  generalize T.l.length = m2 at *
  generalize (T.first : Int) = f2 at *
  have bR : Blk ((w.alloc (.cells #[.int .i64 f, .slice p m c] 30)).alloc (.cells #[.int .i64 0, .slice none 0 0] 30)) (w.heap.size + 1) [.int .i64 0, .slice none 0 0] 30 := Blk.newAt (w.alloc (.cells #[.int .i64 f, .slice p m c] 30)) _ _ _ (by simp) _ rfl
  have k0 : Below w.heap.size w ((w.alloc (.cells #[.int .i64 f, .slice p m c] 30)).alloc (.cells #[.int .i64 0, .slice none 0 0] 30)) := below2 _ _ _
  go_enter Try.func13, Try.ntmps13
  go_wp2_with fail
  refine (HC2.out _ k0 (by simp)).mono ?_
  rintro e w1 ⟨p', c', rfl, hr, hb⟩
  have bR1 := bR.below hb bR.lt
  have k1 : Below w.heap.size w w1 := k0.trans (hb.mono (by simp; omega))
  have y0 : w1.cell? ⟨w.heap.size + 1, 0, none⟩ = some (.int .i64 0) := bR1.cell 0
  have y1 : w1.cell? ⟨w.heap.size + 1, 1, none⟩ = some (.slice none 0 0) := bR1.cell 1
  have z0 := bR1.free 0
  have z1 := bR1.free 1
  have l1 := bR1.lt
  have H9 : Hid (Blk ((w1.setCell ⟨w.heap.size + 1, 0, none⟩ (.int .i64 f2)).setCell ⟨w.heap.size + 1, 1, none⟩ (.slice p' m2 c')) (w.heap.size + 1) [.int .i64 f2, .slice p' m2 c'] 30) := (bR1.setC 0 (.int .i64 f2)).setC 1 (.slice p' m2 c')
  have K9 : Hid (Below w.heap.size w ((w1.setCell ⟨w.heap.size + 1, 0, none⟩ (.int .i64 f2)).setCell ⟨w.heap.size + 1, 1, none⟩ (.slice p' m2 c'))) := (k1.setCell (p := ⟨w.heap.size + 1, 0, none⟩) (by simp) _).setCell (p := ⟨w.heap.size + 1, 1, none⟩) (by simp) _
  have R9 : Hid (RZT ((w1.setCell ⟨w.heap.size + 1, 0, none⟩ (.int .i64 f2)).setCell ⟨w.heap.size + 1, 1, none⟩ (.slice p' m2 c')) p' c') := HR2.out _ _ _ _ hr ((Kp.setC (F := fun j => j = w.heap.size + 1) rfl 0 _).trans (Kp.setC (F := fun j => j = w.heap.size + 1) rfl 1 _))
  clear bR bR1 k0 k1 hb HC2 hr HR2
  go_wp2_with fail
  exact bodyPost_ret (v := .tuple #[.agg #[.int .i64 f2, .slice p' m2 c'], .int .i64 cd]) (resZ2 Try.results13 _ _ (w.heap.size + 1) _ rfl (run_loadVar_row _ (w.heap.size + 1) 30 30 _ (0, 0) _ H9.out Try.underlying30 rfl sizeZ) _ rfl) rfl (HX2.out _ _ _ R9.out K9.out)

set_option maxRecDepth 100000 in
set_option maxHeartbeats 2000000 in
theorem rGive15 (w : World) {A : Nat → Prop} {S : SpS} {p : Option Addr} {c : Nat} (hA : ∀ j, w.heap.size ≤ j → A j) (h : RZ A w S p c) (ok : S.ok) (a n : Int) : Calls Try.prog 15 #[.agg (zc S p c).toArray, .int .i64 a, .int .i64 n] w fun e w' => ∃ p' c', e = .returned (.tuple #[.agg (zc (S.give a n).1 p' c').toArray, .int .i64 (S.give a n).2]) ∧ RZ A w' (S.give a n).1 p' c' ∧ Below w.heap.size w w' := by
  unfold SpS.give
  replace h := h.lt ok
  have HC : Hid (∀ u, Below w.heap.size w u → w.heap.size + 2 ≤ u.heap.size → Calls Try.prog 24 #[.agg (zc S p c).toArray, .int .i64 a, .int .i64 n, .bool false, .int .i64 9] u fun e w' => ∃ p' c', e = .returned (.tuple #[.agg (zc (S.run a n false 9).1 p' c').toArray, .int .i64 (S.run a n false 9).2]) ∧ RZ (fun j => A j ∧ j < w.heap.size ∨ w.heap.size + 2 ≤ j) w' (S.run a n false 9).1 p' c' ∧ Below u.heap.size u w') := fun u hu hs =>
    rSet15 u (A := fun j => A j ∧ j < w.heap.size ∨ w.heap.size + 2 ≤ j) (fun j hj => Or.inr (by omega)) ⟨(h.grow hu).b, fun x hx => Or.inl (h.p x hx)⟩ ok a n false 9
  obtain ⟨T, hT⟩ : ∃ T, T = S.run a n false 9 := ⟨_, rfl⟩
  rw [← hT] at HC ⊢
  obtain ⟨T, cd⟩ := T
  dsimp only at HC ⊢
  have key : Hid (∀ u p' c', RZ (fun j => A j ∧ j < w.heap.size ∨ w.heap.size + 2 ≤ j) u T p' c' → Below w.heap.size w u → ∃ p'' c'', (.returned (.tuple #[.agg #[.int .i64 (T.first : Int), .slice p' T.l.length c'], .int .i64 cd]) : Ending) = .returned (.tuple #[.agg (zc T p'' c'').toArray, .int .i64 cd]) ∧ RZ A u T p'' c'' ∧ Below w.heap.size w u) := fun u p' c' hr hu => ⟨p', c', rfl, ⟨hr.b, fun x hx => by rcases hr.p x hx with h | h; exact h.1; exact hA _ (by omega)⟩, hu⟩
  obtain ⟨X, hX⟩ : ∃ X, X = fun e w' => ∃ p' c', e = Ending.returned (.tuple #[.agg (zc T p' c').toArray, .int .i64 cd]) ∧ RZ A w' T p' c' ∧ Below w.heap.size w w' := ⟨_, rfl⟩
  have HX : Hid (∀ u p' c', RZ (fun j => A j ∧ j < w.heap.size ∨ w.heap.size + 2 ≤ j) u T p' c' → Below w.heap.size w u → X (.returned (.tuple #[.agg #[.int .i64 (T.first : Int), .slice p' T.l.length c'], .int .i64 cd])) u) := fun u p' c' hr hu => by rw [hX]; exact key.out u p' c' hr hu
  rw [← hX]
  have HR : Hid (∀ (u v : World) p' c', RZ (fun j => A j ∧ j < w.heap.size ∨ w.heap.size + 2 ≤ j) u T p' c' → Kp (fun j => j = w.heap.size + 1) u v → RZ (fun j => A j ∧ j < w.heap.size ∨ w.heap.size + 2 ≤ j) v T p' c') := fun u v p' c' hr hk => hr.keep hk fun j hj e => by omega
  clear hX key hT h ok hA
  simp only [zc_eq] at HC ⊢
  generalize S.l.length = m at *
  generalize (S.first : Int) = f at *
  obtain ⟨RZT, hRZT⟩ : ∃ RZT : World → Option Addr → Nat → Prop, RZT = fun u p' c' => RZ (fun j => A j ∧ j < w.heap.size ∨ w.heap.size + 2 ≤ j) u T p' c' := ⟨_, rfl⟩
  have HC2 : Hid (∀ u, Below w.heap.size w u → w.heap.size + 2 ≤ u.heap.size → Calls Try.prog 24 #[.agg #[.int .i64 f, .slice p m c], .int .i64 a, .int .i64 n, .bool false, .int .i64 9] u fun e w' => ∃ p' c', e = .returned (.tuple #[.agg #[.int .i64 (T.first : Int), .slice p' T.l.length c'], .int .i64 cd]) ∧ RZT w' p' c' ∧ Below u.heap.size u w') := by rw [hRZT]; exact HC
  have HX2 : Hid (∀ u p' c', RZT u p' c' → Below w.heap.size w u → X (.returned (.tuple #[.agg #[.int .i64 (T.first : Int), .slice p' T.l.length c'], .int .i64 cd])) u) := by rw [hRZT]; exact HX
  have HR2 : Hid (∀ (u v : World) p' c', RZT u p' c' → Kp (fun j => j = w.heap.size + 1) u v → RZT v p' c') := by rw [hRZT]; exact HR
  clear HC HX HR hRZT
  generalize T.l.length = m2 at *
  generalize (T.first : Int) = f2 at *
  have bR : Blk ((w.alloc (.cells #[.int .i64 f, .slice p m c] 30)).alloc (.cells #[.int .i64 0, .slice none 0 0] 30)) (w.heap.size + 1) [.int .i64 0, .slice none 0 0] 30 := Blk.newAt (w.alloc (.cells #[.int .i64 f, .slice p m c] 30)) _ _ _ (by simp) _ rfl
  have k0 : Below w.heap.size w ((w.alloc (.cells #[.int .i64 f, .slice p m c] 30)).alloc (.cells #[.int .i64 0, .slice none 0 0] 30)) := below2 _ _ _
  go_enter Try.func15, Try.ntmps15
  go_wp2_with fail
  refine (HC2.out _ k0 (by simp)).mono ?_
  rintro e w1 ⟨p', c', rfl, hr, hb⟩
  have bR1 := bR.below hb bR.lt
  have k1 : Below w.heap.size w w1 := k0.trans (hb.mono (by simp; omega))
  have y0 : w1.cell? ⟨w.heap.size + 1, 0, none⟩ = some (.int .i64 0) := bR1.cell 0
  have y1 : w1.cell? ⟨w.heap.size + 1, 1, none⟩ = some (.slice none 0 0) := bR1.cell 1
  have z0 := bR1.free 0
  have z1 := bR1.free 1
  have l1 := bR1.lt
  have H9 : Hid (Blk ((w1.setCell ⟨w.heap.size + 1, 0, none⟩ (.int .i64 f2)).setCell ⟨w.heap.size + 1, 1, none⟩ (.slice p' m2 c')) (w.heap.size + 1) [.int .i64 f2, .slice p' m2 c'] 30) := (bR1.setC 0 (.int .i64 f2)).setC 1 (.slice p' m2 c')
  have K9 : Hid (Below w.heap.size w ((w1.setCell ⟨w.heap.size + 1, 0, none⟩ (.int .i64 f2)).setCell ⟨w.heap.size + 1, 1, none⟩ (.slice p' m2 c'))) := (k1.setCell (p := ⟨w.heap.size + 1, 0, none⟩) (by simp) _).setCell (p := ⟨w.heap.size + 1, 1, none⟩) (by simp) _
  have R9 : Hid (RZT ((w1.setCell ⟨w.heap.size + 1, 0, none⟩ (.int .i64 f2)).setCell ⟨w.heap.size + 1, 1, none⟩ (.slice p' m2 c')) p' c') := HR2.out _ _ _ _ hr ((Kp.setC (F := fun j => j = w.heap.size + 1) rfl 0 _).trans (Kp.setC (F := fun j => j = w.heap.size + 1) rfl 1 _))
  clear bR bR1 k0 k1 hb HC2 hr HR2
  go_wp2_with fail
  exact bodyPost_ret (v := .tuple #[.agg #[.int .i64 f2, .slice p' m2 c'], .int .i64 cd]) (resZ2 Try.results15 _ _ (w.heap.size + 1) _ rfl (run_loadVar_row _ (w.heap.size + 1) 30 30 _ (0, 0) _ H9.out Try.underlying30 rfl sizeZ) _ rfl) rfl (HX2.out _ _ _ R9.out K9.out)

/-- What is taken for good is taken. -/
def SpS.good (S : SpS) : Prop := ∀ i, i < S.first → S.l.getD i false = true
theorem SpS.good_find {S : SpS} (h : S.good) {n a : Nat} (hn : 1 ≤ n) (e : allB S.l a n false = true) : S.first ≤ a := by
  by_cases ha : a < S.first
  · have h1 := h a ha
    have h2 := (allB_iff S.l a n false).1 e 0 (by omega)
    rw [Nat.add_zero, h1] at h2
    cases h2
  · omega
theorem SpS.mark_free {S : SpS} (h : S.good) {n a : Nat} (hn : 1 ≤ n) (ha : a + n ≤ S.l.length) (e : allB S.l a n false = true) : S.mark a n = (⟨S.first, putB S.l a n true⟩, 0) := by
  have hf := SpS.good_find h hn e
  unfold SpS.mark
  rw [SpS.run_in ⟨by omega, by omega, by omega⟩, show (!true) = false from rfl, e, if_pos rfl]
/-- A struct and two values handed back. -/
theorem resZ3 {fn : Func} {p t u : Tmp} {ty : TypeId} (h : fn.results = #[.cell p ty, .tmp t, .tmp u]) (tmps : Array Value) (w : World) (g : Nat) (cs : Array Value) (hp : tmps.getD p undef = .pointer (some ⟨g, 0, none⟩)) (hl : (loadVar ty ⟨g, 0, none⟩).run Try.prog w = .ok (.agg cs) w) (x y : Value) (hx : tmps.getD t undef = x) (hy : tmps.getD u undef = y) : (results fn tmps).run Try.prog w = .ok (.tuple #[.agg cs, x, y]) w := by
  have hp' : tmps[p]?.getD undef = .pointer (some ⟨g, 0, none⟩) := by simpa using hp
  have hx' : tmps[t]?.getD undef = x := by simpa using hx
  have hy' : tmps[u]?.getD undef = y := by simpa using hy
  simp [results, h, hp', hx', hy', asAddr, hl]

set_option maxRecDepth 100000 in
set_option maxHeartbeats 2000000 in
theorem rTake15Low (w : World) {A : Nat → Prop} {S : SpS} {p : Option Addr} {c : Nat} (h : RZ A w S p c) (n : Int) (hn : n < 1) : Calls Try.prog 11 #[.agg (zc S p c).toArray, .int .i64 n] w fun e w' => ∃ p' c', e = .returned (.tuple #[.agg (zc S p' c').toArray, .int .i64 0, .int .i64 1]) ∧ RZ A w' S p' c' ∧ Below w.heap.size w w' := by
  have key : Hid (∀ u, Below w.heap.size w u → ∃ p' c', (.returned (.tuple #[.agg #[.int .i64 (S.first : Int), .slice p S.l.length c], .int .i64 0, .int .i64 1]) : Ending) = .returned (.tuple #[.agg (zc S p' c').toArray, .int .i64 0, .int .i64 1]) ∧ RZ A u S p' c' ∧ Below w.heap.size w u) := fun u hu => ⟨p, c, rfl, h.grow hu, hu⟩
  clear h
  obtain ⟨X, hX⟩ : ∃ X, X = fun e w' => ∃ p' c', e = Ending.returned (.tuple #[.agg (zc S p' c').toArray, .int .i64 0, .int .i64 1]) ∧ RZ A w' S p' c' ∧ Below w.heap.size w w' := ⟨_, rfl⟩
  have key2 : Hid (∀ u, Below w.heap.size w u → X (.returned (.tuple #[.agg #[.int .i64 (S.first : Int), .slice p S.l.length c], .int .i64 0, .int .i64 1])) u) := fun u hu => by rw [hX]; exact key.out u hu
  rw [← hX]
  simp only [zc_eq]
  clear hX key
  generalize S.l.length = m at *
  generalize (S.first : Int) = f at *
  go_enter Try.func11, Try.ntmps11
  go_wp2_with fail
  exact bodyPost_ret (v := .tuple #[.agg #[.int .i64 f, .slice p m c], .int .i64 0, .int .i64 1]) (by simp [results, Try.results11, go_sem]) rfl (key2.out _ (below2 _ _ _))

set_option maxRecDepth 100000 in
set_option maxHeartbeats 4000000 in
theorem rTake15At (w : World) {A : Nat → Prop} {S : SpS} {p : Option Addr} {c : Nat} (hA : ∀ j, w.heap.size ≤ j → A j) (h : RZ A w S p c) (ok : S.ok) (good : S.good) (n : Nat) (hn : 1 ≤ n) : Calls Try.prog 11 #[.agg (zc S p c).toArray, .int .i64 (n : Int)] w fun e w' => ∃ p' c', e = .returned (.tuple #[.agg (zc (S.take n).1 p' c').toArray, .int .i64 (S.take n).2.1, .int .i64 (S.take n).2.2]) ∧ RZ A w' (S.take n).1 p' c' ∧ Below w.heap.size w w' := by
  have h2 := ok.n2
  replace h := h.lt ok
  obtain ⟨A2, hA2⟩ : ∃ A2, A2 = fun j => A j ∧ j < w.heap.size ∨ w.heap.size + 2 ≤ j := ⟨_, rfl⟩
  have hr : RZ A2 w S p c := h.mono fun j hj => by rw [hA2]; exact Or.inl hj
  have hA3 : ∀ u : World, w.heap.size + 2 ≤ u.heap.size → ∀ j, u.heap.size ≤ j → A2 j := fun u hu j hj => by rw [hA2]; exact Or.inr (by omega)
  have HC : Hid (∀ u, Below w.heap.size w u → ∀ a : Nat, a + n ≤ S.l.length → Calls Try.prog 22 #[.agg (zc S p c).toArray, .int .i64 (a : Int), .int .i64 (n : Int), .bool false] u fun e w' => e = .returned (.bool (allB S.l a n false)) ∧ Below u.heap.size u w') := fun u hu a ha => rAll15 u (hr.grow hu) ok a n false ha
  have HM : Hid (∀ u, Below w.heap.size w u → w.heap.size + 2 ≤ u.heap.size → ∀ a : Nat, a + n ≤ S.l.length → allB S.l a n false = true → Calls Try.prog 13 #[.agg (zc S p c).toArray, .int .i64 (a : Int), .int .i64 (n : Int)] u fun e w' => ∃ p' c', e = .returned (.tuple #[.agg (zc ⟨S.first, putB S.l a n true⟩ p' c').toArray, .int .i64 0]) ∧ RZ A2 w' ⟨S.first, putB S.l a n true⟩ p' c' ∧ Below u.heap.size u w') := fun u hu hs a ha e => by
    have := rMark15 u (hA3 u hs) (hr.grow hu) ok (a : Int) (n : Int)
    rw [SpS.mark_free good hn ha e] at this
    exact this
  have HF : Hid (∀ a : Nat, a + n ≤ S.l.length → allB S.l a n false = true → (∀ b, b < a → allB S.l b n false = false) → S.take n = (⟨S.first, putB S.l a n true⟩, (a : Int), 0)) := fun a ha e hb => SpS.take_some hn (findL_some ha e hb)
  have HN : Hid ((∀ a : Nat, a + n ≤ S.l.length → allB S.l a n false = false) → S.take n = (S, 0, 7)) := fun hb => SpS.take_none hn (findL_none hb)
  have HR : Hid (∀ (u : World) (T : SpS) p' c', RZ A2 u T p' c' → RZ A u T p' c') := fun u T p' c' hr => hr.mono fun j hj => by rw [hA2] at hj; rcases hj with hj | hj; exact hj.1; exact hA j (by omega)
  have HK : Hid (∀ (u v : World) (T : SpS) p' c', RZ A2 u T p' c' → Kp (fun j => j = w.heap.size + 1) u v → RZ A2 v T p' c') := fun u v T p' c' hr hk => hr.keep hk fun j hj e => by rw [hA2] at hj; omega
  have HG : Hid (∀ u, Below w.heap.size w u → RZ A2 u S p c) := fun u hu => hr.grow hu
  have key : Hid (∀ (T : SpS) (x y : Int) u p' c', S.take n = (T, x, y) → RZ A2 u T p' c' → Below w.heap.size w u → ∃ p'' c'', (.returned (.tuple #[.agg #[.int .i64 (T.first : Int), .slice p' T.l.length c'], .int .i64 x, .int .i64 y]) : Ending) = .returned (.tuple #[.agg (zc (S.take n).1 p'' c'').toArray, .int .i64 (S.take n).2.1, .int .i64 (S.take n).2.2]) ∧ RZ A u (S.take n).1 p'' c'' ∧ Below w.heap.size w u) := fun T x y u p' c' e hr hu => by
    rw [e]
    exact ⟨p', c', rfl, HR.out _ _ _ _ hr, hu⟩
  obtain ⟨X, hX⟩ : ∃ X, X = fun e w' => ∃ p' c', e = Ending.returned (.tuple #[.agg (zc (S.take n).1 p' c').toArray, .int .i64 (S.take n).2.1, .int .i64 (S.take n).2.2]) ∧ RZ A w' (S.take n).1 p' c' ∧ Below w.heap.size w w' := ⟨_, rfl⟩
  have HX : Hid (∀ (T : SpS) (x y : Int) u p' c', S.take n = (T, x, y) → RZ A2 u T p' c' → Below w.heap.size w u → X (.returned (.tuple #[.agg #[.int .i64 (T.first : Int), .slice p' T.l.length c'], .int .i64 x, .int .i64 y])) u) := fun T x y u p' c' e hr hu => by rw [hX]; exact key.out T x y u p' c' e hr hu
  rw [← hX]
  clear hX key hA2 h ok good hA HR hr hA3
  simp only [zc_eq] at HC HM ⊢
  obtain ⟨m, hm⟩ : ∃ m, m = S.l.length := ⟨_, rfl⟩
  have HM2 : Hid (∀ a, (putB S.l a n true).length = m) := fun a => by rw [putB_length, hm]
  have HX1 : Hid (∀ a : Nat, a + n ≤ m → allB S.l a n false = true → (∀ b, b < a → allB S.l b n false = false) → ∀ u p' c', RZ A2 u ⟨S.first, putB S.l a n true⟩ p' c' → Below w.heap.size w u → X (.returned (.tuple #[.agg #[.int .i64 (S.first : Int), .slice p' m c'], .int .i64 (a : Int), .int .i64 0])) u) := fun a ha e hb u p' c' hr hu => by
    have := HX.out _ _ _ u p' c' (HF.out a (by omega) e hb) hr hu
    dsimp only at this
    rw [HM2.out] at this
    exact this
  have HX0 : Hid ((∀ a : Nat, a + n ≤ m → allB S.l a n false = false) → ∀ u, Below w.heap.size w u → X (.returned (.tuple #[.agg #[.int .i64 (S.first : Int), .slice p m c], .int .i64 0, .int .i64 7])) u) := fun hb u hu => by
    have := HX.out _ _ _ u p c (HN.out (by rw [← hm]; exact hb)) (HG.out u hu) hu
    rw [hm]
    exact this
  have HMM : Hid (∀ u, Below w.heap.size w u → w.heap.size + 2 ≤ u.heap.size → ∀ a : Nat, a + n ≤ m → allB S.l a n false = true → Calls Try.prog 13 #[.agg #[.int .i64 (S.first : Int), .slice p m c], .int .i64 (a : Int), .int .i64 (n : Int)] u fun e w' => ∃ p' c', e = .returned (.tuple #[.agg #[.int .i64 (S.first : Int), .slice p' m c'], .int .i64 0]) ∧ RZ A2 w' ⟨S.first, putB S.l a n true⟩ p' c' ∧ Below u.heap.size u w') := fun u hu hs a ha e => by
    have := HM.out u hu hs a (by omega) e
    rw [HM2.out, ← hm] at this
    exact this
  rw [← hm] at HC h2 ⊢
  have hn0 : ¬ (n : Int) < 1 := by omega
  have hm5 : (m : Int) ≤ 4096 := by omega
  clear HX HF HN HG HM HM2 hm
  generalize hf : (S.first : Int) = f at *
  clear hf
  obtain ⟨l, hl⟩ : ∃ l, l = S.l := ⟨_, rfl⟩
  obtain ⟨P, hP⟩ : ∃ P : World → Nat → Option Addr → Nat → Prop, P = fun u a p' c' => RZ A2 u ⟨S.first, putB S.l a n true⟩ p' c' := ⟨_, rfl⟩
  have HK2 : Hid (∀ (u v : World) a p' c', P u a p' c' → Kp (fun j => j = w.heap.size + 1) u v → P v a p' c') := by rw [hP]; exact fun u v a p' c' hr hk => HK.out u v _ p' c' hr hk
  have HX1' : Hid (∀ a : Nat, a + n ≤ m → allB l a n false = true → (∀ b, b < a → allB l b n false = false) → ∀ u p' c', P u a p' c' → Below w.heap.size w u → X (.returned (.tuple #[.agg #[.int .i64 f, .slice p' m c'], .int .i64 (a : Int), .int .i64 0])) u) := by rw [hP, hl]; exact HX1
  have HMM' : Hid (∀ u, Below w.heap.size w u → w.heap.size + 2 ≤ u.heap.size → ∀ a : Nat, a + n ≤ m → allB l a n false = true → Calls Try.prog 13 #[.agg #[.int .i64 f, .slice p m c], .int .i64 (a : Int), .int .i64 (n : Int)] u fun e w' => ∃ p' c', e = .returned (.tuple #[.agg #[.int .i64 f, .slice p' m c'], .int .i64 0]) ∧ P w' a p' c' ∧ Below u.heap.size u w') := by rw [hP, hl]; exact HMM
  rw [← hl] at HC HX0
  clear HX1 HMM HK hP hl
  have bC : Blk ((w.alloc (.cells #[.int .i64 f, .slice p m c] 30)).alloc (.cells #[.int .i64 0, .slice none 0 0] 30)) w.heap.size [.int .i64 f, .slice p m c] 30 := (Blk.newAt w _ _ w.heap.size rfl _ rfl).old _
  have bR : Blk ((w.alloc (.cells #[.int .i64 f, .slice p m c] 30)).alloc (.cells #[.int .i64 0, .slice none 0 0] 30)) (w.heap.size + 1) [.int .i64 0, .slice none 0 0] 30 := Blk.newAt (w.alloc (.cells #[.int .i64 f, .slice p m c] 30)) _ _ _ (by simp) _ rfl
  have k0 : Below w.heap.size w ((w.alloc (.cells #[.int .i64 f, .slice p m c] 30)).alloc (.cells #[.int .i64 0, .slice none 0 0] 30)) := below2 _ _ _
  have s0 : w.heap.size + 2 ≤ ((w.alloc (.cells #[.int .i64 f, .slice p m c] 30)).alloc (.cells #[.int .i64 0, .slice none 0 0] 30)).heap.size := by simp
  have Hn : Hid (1 ≤ n) := hn
  clear hn
  go_enter Try.func11, Try.ntmps11
  go_wp2_with fail
  go_loopw [7] (fun x wr => ∃ k : Nat, k ≤ 4097 ∧ x = .int .i64 (k : Int) ∧ Hid (∀ b, b < k → allB l b n false = false) ∧ Blk wr w.heap.size [.int .i64 f, .slice p m c] 30 ∧ Blk wr (w.heap.size + 1) [.int .i64 0, .slice none 0 0] 30 ∧ Below w.heap.size w wr ∧ w.heap.size + 2 ≤ wr.heap.size) (fun x _ => 4097 - (intOf x).toNat)
  case atStart => exact ⟨0, by omega, rfl, fun b hb => by omega, bC, bR, k0, s0⟩
  case round =>
    clear bC bR k0 s0
    obtain ⟨k, hk, rfl, HB, bC, bZ, kb, hs⟩ := hrel
    have c0 : wr.cell? ⟨w.heap.size, 0, none⟩ = some (.int .i64 f) := bC.cell 0
    have c1 : wr.cell? ⟨w.heap.size, 1, none⟩ = some (.slice p m c) := bC.cell 1
    have lC := bC.lt
    by_cases hlt : k + n ≤ m
    · have i1 : (n : Int) ≤ (m : Int) := by omega
      have i2 : (k : Int) ≤ (m : Int) - (n : Int) := by omega
      have hk2 : k + 1 ≤ 4097 := by omega
      have HCk := HC.out wr kb k hlt
      have HMk : Hid (∀ u, Below w.heap.size w u → w.heap.size + 2 ≤ u.heap.size → allB l k n false = true → Calls Try.prog 13 #[.agg #[.int .i64 f, .slice p m c], .int .i64 (k : Int), .int .i64 (n : Int)] u fun e w' => ∃ p' c', e = .returned (.tuple #[.agg #[.int .i64 f, .slice p' m c'], .int .i64 0]) ∧ P w' k p' c' ∧ Below u.heap.size u w') := fun u h1 h2 h3 => HMM'.out u h1 h2 k hlt h3
      have HXk : Hid (allB l k n false = true → ∀ u p' c', P u k p' c' → Below w.heap.size w u → X (.returned (.tuple #[.agg #[.int .i64 f, .slice p' m c'], .int .i64 (k : Int), .int .i64 0])) u) := fun e => HX1'.out k hlt e HB.out
      cases e : allB l k n false with
      | false =>
        rw [e] at HCk
        have HBk : Hid (∀ b, b < k + 1 → allB l b n false = false) := fun b hb => by
          by_cases hbk : b = k
          · rw [hbk]; exact e
          · exact HB.out b (by omega)
        have HbC : Hid (Blk wr w.heap.size [.int .i64 f, .slice p m c] 30) := bC
        have HbZ : Hid (Blk wr (w.heap.size + 1) [.int .i64 0, .slice none 0 0] 30) := bZ
        have Hkb : Hid (Below w.heap.size w wr) := kb
        have Hhs : Hid (w.heap.size + 2 ≤ wr.heap.size) := hs
        clear e bC bZ kb hs hlt
        go_wp2_with fail
        refine HCk.mono ?_
        rintro e w1 ⟨rfl, hb⟩
        have bC1 := HbC.out.below hb HbC.out.lt
        have bZ1 := HbZ.out.below hb HbZ.out.lt
        have kb1 : Below w.heap.size w w1 := Hkb.out.trans (hb.mono Hkb.out.size)
        have hs1 : w.heap.size + 2 ≤ w1.heap.size := Nat.le_trans Hhs.out hb.size
        clear HCk hb
        go_wp2_with fail
        go_roundw
        case rel => exact ⟨k + 1, hk2, by go_num, HBk, bC1, bZ1, kb1, hs1⟩
        case measure => simp [intOf]; omega
      | true =>
        rw [e] at HCk
        have HMk' := HMk.out
        have HXk' : Hid (∀ u p' c', P u k p' c' → Below w.heap.size w u → X (.returned (.tuple #[.agg #[.int .i64 f, .slice p' m c'], .int .i64 (k : Int), .int .i64 0])) u) := HXk.out e
        have HMkk : Hid (∀ u, Below w.heap.size w u → w.heap.size + 2 ≤ u.heap.size → Calls Try.prog 13 #[.agg #[.int .i64 f, .slice p m c], .int .i64 (k : Int), .int .i64 (n : Int)] u fun e w' => ∃ p' c', e = .returned (.tuple #[.agg #[.int .i64 f, .slice p' m c'], .int .i64 0]) ∧ P w' k p' c' ∧ Below u.heap.size u w') := fun u h1 h2 => HMk.out u h1 h2 e
        have HbC : Hid (Blk wr w.heap.size [.int .i64 f, .slice p m c] 30) := bC
        have HbZ : Hid (Blk wr (w.heap.size + 1) [.int .i64 0, .slice none 0 0] 30) := bZ
        have Hkb : Hid (Below w.heap.size w wr) := kb
        have Hhs : Hid (w.heap.size + 2 ≤ wr.heap.size) := hs
        clear e bC bZ kb hs hlt HMk' HMk HXk
        go_wp2_with fail
        refine HCk.mono ?_
        rintro e w1 ⟨rfl, hb⟩
        have bC1 := HbC.out.below hb HbC.out.lt
        have bZ1 := HbZ.out.below hb HbZ.out.lt
        have kb1 : Below w.heap.size w w1 := Hkb.out.trans (hb.mono Hkb.out.size)
        have hs1 : w.heap.size + 2 ≤ w1.heap.size := Nat.le_trans Hhs.out hb.size
        have d0 : w1.cell? ⟨w.heap.size, 0, none⟩ = some (.int .i64 f) := bC1.cell 0
        have d1 : w1.cell? ⟨w.heap.size, 1, none⟩ = some (.slice p m c) := bC1.cell 1
        have lC1 := bC1.lt
        clear HCk hb
        have HMw := HMkk.out w1 kb1 hs1
        have HbZ1 : Hid (Blk w1 (w.heap.size + 1) [.int .i64 0, .slice none 0 0] 30) := bZ1
        have Hkb1 : Hid (Below w.heap.size w w1) := kb1
        clear bC1 bZ1 kb1 hs1 HMkk
        go_wp2_with fail
        refine HMw.mono ?_
        rintro e w2 ⟨p', c', rfl, hP2, hb2⟩
        clear HMw
        have bZa := HbZ1.out.below hb2 HbZ1.out.lt
        have y0 : w2.cell? ⟨w.heap.size + 1, 0, none⟩ = some (.int .i64 0) := bZa.cell 0
        have y1 : w2.cell? ⟨w.heap.size + 1, 1, none⟩ = some (.slice none 0 0) := bZa.cell 1
        have z0 := bZa.free 0
        have z1 := bZa.free 1
        have la := bZa.lt
        have kb2 : Below w.heap.size w w2 := Hkb1.out.trans (hb2.mono Hkb1.out.size)
        have H9 : Hid (Blk (((w2.setCell ⟨w.heap.size + 1, 0, none⟩ (.int .i64 f)).setCell ⟨w.heap.size + 1, 1, none⟩ (.slice p' m c')).alloc (.cells #[.int .i64 f, .slice p' m c'] 30)) (w.heap.size + 1) [.int .i64 f, .slice p' m c'] 30) := ((bZa.setC 0 (.int .i64 f)).setC 1 (.slice p' m c')).old _
        have kb3 : Below w.heap.size w ((w2.setCell ⟨w.heap.size + 1, 0, none⟩ (.int .i64 f)).setCell ⟨w.heap.size + 1, 1, none⟩ (.slice p' m c')) := (kb2.setCell (p := ⟨w.heap.size + 1, 0, none⟩) (by simp) _).setCell (p := ⟨w.heap.size + 1, 1, none⟩) (by simp) _
        have K9 : Hid (Below w.heap.size w (((w2.setCell ⟨w.heap.size + 1, 0, none⟩ (.int .i64 f)).setCell ⟨w.heap.size + 1, 1, none⟩ (.slice p' m c')).alloc (.cells #[.int .i64 f, .slice p' m c'] 30))) := kb3.alloc kb3.size _
        have P9 : Hid (P (((w2.setCell ⟨w.heap.size + 1, 0, none⟩ (.int .i64 f)).setCell ⟨w.heap.size + 1, 1, none⟩ (.slice p' m c')).alloc (.cells #[.int .i64 f, .slice p' m c'] 30)) k p' c') := HK2.out _ _ _ _ _ hP2 (((Kp.setC (F := fun j => j = w.heap.size + 1) rfl 0 _).trans (Kp.setC (F := fun j => j = w.heap.size + 1) rfl 1 _)).trans (Kp.of_below (below_alloc _ _)))
        clear bZa kb2 kb3 hb2 hP2
        go_wp2_with fail
        exact bodyPost_ret (v := .tuple #[.agg #[.int .i64 f, .slice p' m c'], .int .i64 (k : Int), .int .i64 0]) (resZ3 Try.results11 _ _ (w.heap.size + 1) _ rfl (run_loadVar_row _ (w.heap.size + 1) 30 30 _ (0, 0) _ H9.out Try.underlying30 rfl sizeZ) _ _ rfl rfl) rfl (HXk'.out _ _ _ P9.out K9.out)
    · have HY : Hid (∀ u, Below w.heap.size w u → X (.returned (.tuple #[.agg #[.int .i64 f, .slice p m c], .int .i64 0, .int .i64 7])) u) := HX0.out fun a ha => HB.out a (by omega)
      have y0 : wr.cell? ⟨w.heap.size + 1, 0, none⟩ = some (.int .i64 0) := bZ.cell 0
      have y1 : wr.cell? ⟨w.heap.size + 1, 1, none⟩ = some (.slice none 0 0) := bZ.cell 1
      have z0 := bZ.free 0
      have z1 := bZ.free 1
      have la := bZ.lt
      have H9 : Hid (Blk ((wr.setCell ⟨w.heap.size + 1, 0, none⟩ (.int .i64 f)).setCell ⟨w.heap.size + 1, 1, none⟩ (.slice p m c)) (w.heap.size + 1) [.int .i64 f, .slice p m c] 30) := (bZ.setC 0 (.int .i64 f)).setC 1 (.slice p m c)
      have K9 : Hid (Below w.heap.size w ((wr.setCell ⟨w.heap.size + 1, 0, none⟩ (.int .i64 f)).setCell ⟨w.heap.size + 1, 1, none⟩ (.slice p m c))) := (kb.setCell (p := ⟨w.heap.size + 1, 0, none⟩) (by simp) _).setCell (p := ⟨w.heap.size + 1, 1, none⟩) (by simp) _
      clear bC bZ kb hs
      by_cases i1 : (n : Int) ≤ (m : Int)
      · have i2 : ¬ (k : Int) ≤ (m : Int) - (n : Int) := by omega
        clear hlt
        go_wp2_with fail
        exact bodyPost_ret (v := .tuple #[.agg #[.int .i64 f, .slice p m c], .int .i64 0, .int .i64 7]) (resZ3 Try.results11 _ _ (w.heap.size + 1) _ rfl (run_loadVar_row _ (w.heap.size + 1) 30 30 _ (0, 0) _ H9.out Try.underlying30 rfl sizeZ) _ _ rfl rfl) rfl (HY.out _ K9.out)
      · clear hlt
        go_wp2_with fail
        exact bodyPost_ret (v := .tuple #[.agg #[.int .i64 f, .slice p m c], .int .i64 0, .int .i64 7]) (resZ3 Try.results11 _ _ (w.heap.size + 1) _ rfl (run_loadVar_row _ (w.heap.size + 1) 30 30 _ (0, 0) _ H9.out Try.underlying30 rfl sizeZ) _ _ rfl rfl) rfl (HY.out _ K9.out)

theorem rTake15 (w : World) {A : Nat → Prop} {S : SpS} {p : Option Addr} {c : Nat} (hA : ∀ j, w.heap.size ≤ j → A j) (h : RZ A w S p c) (ok : S.ok) (good : S.good) (n : Int) : Calls Try.prog 11 #[.agg (zc S p c).toArray, .int .i64 n] w fun e w' => ∃ p' c', e = .returned (.tuple #[.agg (zc (S.take n).1 p' c').toArray, .int .i64 (S.take n).2.1, .int .i64 (S.take n).2.2]) ∧ RZ A w' (S.take n).1 p' c' ∧ Below w.heap.size w w' := by
  by_cases hn : n < 1
  · rw [SpS.take_low hn]
    exact rTake15Low w h n hn
  · obtain ⟨m, rfl⟩ : ∃ m : Nat, n = (m : Int) := ⟨n.toNat, by omega⟩
    exact rTake15At w hA h ok good m (by omega)
/-- What is taken for good stays. -/
theorem SpS.good_put {S : SpS} (h : S.good) {a n : Nat} (b : Bool) (ha : S.first ≤ a) (hl : S.first ≤ S.l.length) : (SpS.mk S.first (putB S.l a n b)).good := fun i hi => by
  show (putB S.l a n b).getD i false = true
  dsimp only at hi
  rw [putB_get _ _ _ _ (by omega)]
  unfold putF
  rw [if_neg (by omega)]
  exact h i hi
theorem SpS.good_new (n f : Nat) (h : f ≤ n) : (SpS.new n f).good := fun i hi => by
  have hi' : i < f := hi
  rw [SpS.new_get _ _ (by omega), decide_eq_true hi']
theorem SpS.good_run {S : SpS} (h : S.good) (ok : S.ok) (a n : Int) (b : Bool) (wrong : Int) : (S.run a n b wrong).1.good := by
  by_cases hh : S.has a n
  · obtain ⟨x, m, rfl, rfl, h1, h2, h3⟩ := SpS.has_nat hh
    rw [SpS.run_in hh]
    split
    · exact SpS.good_put h b h2 ok.f
    · exact h
  · rw [SpS.run_not hh]
    exact h
theorem SpS.good_take {S : SpS} (h : S.good) (ok : S.ok) (n : Int) : (S.take n).1.good := by
  by_cases hn : n < 1
  · rw [SpS.take_low hn]; exact h
  · obtain ⟨m, rfl⟩ : ∃ m : Nat, n = (m : Int) := ⟨n.toNat, by omega⟩
    have hm : 1 ≤ m := by omega
    cases e : findL S.l m with
    | none => rw [SpS.take_none hm e]; exact h
    | some a =>
      rw [SpS.take_some hm e]
      exact SpS.good_put h true (SpS.good_find h hm (findL_spec e).2.1) ok.f

end Go.Proofs.Ytcmbkpdefbaakaa
