/-
  3 texts in one. No statement of the seat is proved here.
-/
import Derived.Test.YtbifikeecmaakaaG14
import Derived.Deep.MidRow
/-
  An element of a slice of slices of the call's own, replaced. No condition; no statement of the seat is proved here.
-/
namespace Go.Proofs.Ytbifikeecmaakaa
open Go.RowKit

theorem flat1_set : ∀ {rows : List (List Value)} (_ : ∀ vs ∈ rows, vs.length = 1) (k : Nat) (u : Value), (rows.set k [u]).flatten = rows.flatten.set k u
  | [], _, k, u => by simp
  | r :: rows, h, 0, u => by
    obtain ⟨x, rfl⟩ := List.length_eq_one_iff.1 (h r (by simp))
    simp
  | r :: rows, h, k + 1, u => by
    obtain ⟨x, rfl⟩ := List.length_eq_one_iff.1 (h r (by simp))
    have hx : ∀ vs ∈ rows, vs.length = 1 := fun v hv => h v (List.mem_cons_of_mem _ hv)
    have := flat1_set hx k u
    simpa using this
theorem Rel2.set {α β : Type} {R : α → β → Prop} : ∀ {l : List α} {m : List β}, Rel2 R l m → ∀ (k : Nat) {x : α} {y : β}, R x y → Rel2 R (l.set k x) (m.set k y)
  | [], [], _, k, x, y, _ => by simp [Rel2]
  | _ :: _, _ :: _, h, 0, x, y, hr => ⟨hr, h.2⟩
  | _ :: _, _ :: _, h, k + 1, x, y, hr => ⟨h.1, Rel2.set h.2 k hr⟩
  | [], _ :: _, h, _, _, _, _ => h.elim
  | _ :: _, [], h, _, _, _, _ => h.elim
/-- out.L[k] = s. -/
theorem OwB.set {A : Nat → Prop} {e : TypeId} {w : World} {base : Nat} {a : Option Addr} {n c : Nat} {l : List (List UInt8)} (h : OwS (elB A) 1 e w base (.slice a n c) l) (he : e ≠ 5) {k : Nat} (hk : k < l.length) :
    ∃ g, a = some ⟨g, 0, none⟩ ∧ base ≤ g ∧ g < w.heap.size ∧ (∃ u, w.cell? ⟨g, k, none⟩ = some u) ∧ w.frozen? ⟨g, k, none⟩ = false ∧
      ∀ {p : Option Addr} {m q : Nat} {x : List UInt8}, B5 A w p m q x → OwS (elB A) 1 e (w.setCell ⟨g, k, none⟩ (.slice p m q)) base (.slice a n c) (l.set k x) := by
  have h5 := OwS.not5 h he
  obtain ⟨rows, hr, h1, h2⟩ := h
  rcases h2 with ⟨hv, h0⟩ | ⟨g, cap, cur, hv, hg, hh, hn, hm, hc, ht⟩
  · omega
  · simp only [Value.slice.injEq] at hv
    obtain ⟨rfl, rfl, rfl⟩ := hv
    have hlt : g < w.heap.size := (Array.getElem?_eq_some_iff.1 hh).1
    have hks : k < cur.size := by rw [hc]; omega
    refine ⟨g, rfl, hg, hlt, ⟨cur[k], ?_⟩, ?_, fun {p m q x} hx => ?_⟩
    · rw [cell_of_row w g k _ e (0, 0) hh]
      simp [hks]
    · simp [World.frozen?, hh]
    · have hgb := but_set w g k (.slice p m q)
      have hel := elB.grown (A := A) hgb (fun j cur f hj => h5 j cur f (by rw [← hj]; rfl))
      refine ⟨rows.set k [.slice p m q], ?_, ?_, ?_⟩
      · exact Rel2.set (hr.mono fun y vs ⟨a1, a2, a3⟩ => ⟨a1, a2, hel y vs a3⟩) k ⟨rfl, by intro v hv; simp at hv; subst hv; rfl, p, m, q, rfl, hx.grown hgb (fun j cur f hj => h5 j cur f (by rw [← hj]; rfl))⟩
      · rw [flat1_set (rel_lens hr), List.length_set, List.length_set]
        exact h1
      · refine Or.inr ⟨g, c, cur.setIfInBounds k (.slice p m q), by rw [List.length_set], hg, ?_, by rw [List.length_set]; exact hn, hm, by simpa using hc, ?_⟩
        · rw [setCell_eq_setRow w g k _ e (0, 0) _ hh, setRow_heap w g _ _ e (0, 0) hh]
        · rw [flat1_set (rel_lens hr), List.length_set, ← ht]
          rw [Array.toList_setIfInBounds, List.take_set]

theorem OwB.mono {A A' : Nat → Prop} {e : TypeId} {w : World} {base : Nat} {v : Value} {l : List (List UInt8)} (h : OwS (elB A) 1 e w base v l) (hA : ∀ j, j < w.heap.size → A j → A' j) : OwS (elB A') 1 e w base v l := by
  obtain ⟨rows, hr, ho⟩ := h
  exact ⟨rows, hr.mono fun x vs ⟨a1, a2, p, m, q, e, hb⟩ => ⟨a1, a2, p, m, q, e, hb.mono hA⟩, ho⟩

end Go.Proofs.Ytbifikeecmaakaa

/-
  The contracts of layer 14's program: numbers, and clones of bytes and of keys; how a key among those of the call's own is replaced. Conditions: rows of at most a million.
-/
namespace Go.Proofs.Ytbifikeecmaakaa
open Go.RowKit

/-- An anchor's numbers as they are written. -/
def u6 (a : AncS) : List Value := [.int .u64 (IntKind.u64.wrap a.seq), .int .u64 (IntKind.u64.wrap a.epoch), .int .u64 (IntKind.u64.wrap a.given), .int .u64 (IntKind.u64.wrap (wrap64 (a.root + 1))), .int .u64 (IntKind.u64.wrap a.rootEpoch), .int .u64 (IntKind.u64.wrap a.pending)]
set_option maxRecDepth 100000 in
theorem oNumbersA (w : World) (a : AncS) (p q : Tri) : Calls Try.prog 38 #[anV a p q] w fun e w' => e = .returned (.agg (u6 a).toArray) ∧ Below w.heap.size w w' := by
  obtain ⟨sq, ep, gi, ro, re, pe, ma, ks⟩ := a
  unfold anV anc u6
  dsimp only
  go_enter Try.func38, Try.ntmps38
  go_wp2_with fail
  exact bodyPost_ret (v := .agg #[.int .u64 (IntKind.u64.wrap sq), .int .u64 (IntKind.u64.wrap ep), .int .u64 (IntKind.u64.wrap gi), .int .u64 (IntKind.u64.wrap (wrap64 (ro + 1))), .int .u64 (IntKind.u64.wrap re), .int .u64 (IntKind.u64.wrap pe)]) (by simp [results, Try.results38, go_sem]) rfl ⟨rfl, below2 _ _ _⟩

theorem eqNilB (w : World) : Sem.run Try.prog (binOp .eql 22 (.slice none 0 0) (.slice none 0 0)) w = .ok (.bool true) w := by kernel_rfl
theorem eqSomeB (w : World) (x : Addr) (n c : Nat) : Sem.run Try.prog (binOp .eql 22 (.slice (some x) n c) (.slice none 0 0)) w = .ok (.bool false) w := by kernel_rfl
theorem eqNilK (w : World) : Sem.run Try.prog (binOp .eql 23 (.slice none 0 0) (.slice none 0 0)) w = .ok (.bool true) w := by kernel_rfl
theorem eqSomeK (w : World) (x : Addr) (n c : Nat) : Sem.run Try.prog (binOp .eql 23 (.slice (some x) n c) (.slice none 0 0)) w = .ok (.bool false) w := by kernel_rfl
theorem Own.lit0 (w : World) : Own (w.alloc (.cells #[] 5)) w.heap.size (.slice (some ⟨w.heap.size, 0, none⟩) 0 0) [] := by
  unfold Own
  exact World.ownsRow_lit w #[] 0 (Nat.le_refl _) (by unfold maxLen; omega) (by simp)
set_option maxRecDepth 100000 in
theorem oCloneB (w : World) {a : Option Addr} {n c : Nat} {l : List UInt8} (h : Bs w a n c l) (hn : n ≤ 1000000) : Calls Try.prog 55 #[.slice a n c] w (Gives w l) := by
  cases a with
  | none =>
    have hc := h.2.2.2.1 rfl
    have hcap := h.cap
    obtain rfl : n = 0 := by omega
    subst hc
    obtain rfl : l = [] := List.length_eq_zero_iff.1 h.len
    clear h
    have hq := eqNilB
    go_enter Try.func55, Try.ntmps55
    go_wp2_with fail
    go_ret
    exact ⟨none, 0, 0, rfl, Own.nil _ _, Below.refl _ _⟩
  | some x =>
    have hl := h.len
    have H : Hid (Bs (w.alloc (.cells #[] 5)) (some x) n c l) := h.below (below_alloc _ _) (Nat.le_refl _)
    have H0 : Hid (Own (w.alloc (.cells #[] 5)) w.heap.size (.slice (some ⟨w.heap.size, 0, none⟩) 0 0) []) := Own.lit0 w
    clear h
    have hq := eqSomeB
    go_enter Try.func55, Try.ntmps55
    go_wp2_with (at_builtin; refine wpList_app _ rfl (.tmp 5) (.tmp 6) rfl w.heap.size _ [] rfl H0.out (some x) n c l rfl H.out (by simp; omega) (by simp) ?_; intro v1 w1 o1 b1; obtain ⟨a1, m1, c1, rfl⟩ : ∃ a1 m1 c1, v1 = .slice a1 m1 c1 := (by obtain ⟨a1, c1, e1, _⟩ := o1.bs; exact ⟨_, _, _, e1⟩))
    go_ret
    rw [List.nil_append] at o1
    exact ⟨a1, m1, c1, rfl, o1, (below_alloc _ _).trans b1⟩

theorem Rel2.at_ {α β : Type} {R : α → β → Prop} {l : List α} {m : List β} (h : Rel2 R l m) {i : Nat} {x : α} (hx : l[i]? = some x) : ∃ y, m[i]? = some y ∧ R x y := h.at hx
theorem flat3_set : ∀ {rows : List (List Value)} (_ : ∀ vs ∈ rows, vs.length = 3) (k : Nat) (x y z u : Value), rows[k]? = some [x, y, z] → (rows.set k [x, y, u]).flatten = rows.flatten.set (k * 3 + 2) u
  | [], _, k, _, _, _, _, h => by simp at h
  | r :: rows, _, 0, x, y, z, u, h => by
    simp at h
    subst h
    simp
  | r :: rows, hl, k + 1, x, y, z, u, h => by
    have h0 := hl r (by simp)
    have hx : ∀ vs ∈ rows, vs.length = 3 := fun v hv => hl v (List.mem_cons_of_mem _ hv)
    have ih := flat3_set hx k x y z u (by simpa using h)
    rw [List.set_cons_succ, List.flatten_cons, List.flatten_cons, ih, List.set_append_right _ _ (by rw [h0]; omega), h0]
    congr 2
    omega
theorem Rel2.setR {α β : Type} {R : α → β → Prop} : ∀ {l : List α} {m : List β}, Rel2 R l m → ∀ (k : Nat) {x : α} {y : β}, l[k]? = some x → R x y → Rel2 R l (m.set k y)
  | [], [], _, k, x, y, h, _ => by simp at h
  | _ :: _, _ :: _, h, 0, x, y, hx, hr => by
    simp at hx
    subst hx
    exact ⟨hr, h.2⟩
  | _ :: _, _ :: _, h, k + 1, x, y, hx, hr => ⟨h.1, Rel2.setR h.2 k (by simpa using hx) hr⟩
  | [], _ :: _, h, _, _, _, _, _ => h.elim
  | _ :: _, [], h, _, _, _, _, _ => h.elim
/-- The k-th key of the call's own: where it lies; its bytes may be laid elsewhere. -/
theorem OwK.set {A : Nat → Prop} {e : TypeId} {w : World} {base : Nat} {a : Option Addr} {n c : Nat} {l : List KekS} (h : OwS (elK A) 3 e w base (.slice a n c) l) {k : Nat} {x : KekS} (hx : l[k]? = some x) :
    ∃ g s m q, a = some ⟨g, 0, none⟩ ∧ base ≤ g ∧ g < w.heap.size ∧ w.rangeAt g (k * 3) (kkc x s m q) ∧ BA A w s m q x.key ∧ w.frozen? ⟨g, k * 3 + 2, none⟩ = false ∧
      ∀ {p : Option Addr} {m' q' : Nat}, BA A w p m' q' x.key → (∀ j, A j → j ≠ g) → OwS (elK A) 3 e (w.setCell ⟨g, k * 3 + 2, none⟩ (.slice p m' q')) base (.slice a n c) l := by
  have hkl : k < l.length := (List.getElem?_eq_some_iff.1 hx).1
  obtain ⟨rows, hr, h1, h2⟩ := h
  rcases h2 with ⟨hv, h0⟩ | ⟨g, cap, cur, hv, hg, hh, hn, hm, hc, ht⟩
  · omega
  · simp only [Value.slice.injEq] at hv
    obtain ⟨rfl, rfl, rfl⟩ := hv
    have hlt : g < w.heap.size := (Array.getElem?_eq_some_iff.1 hh).1
    obtain ⟨vs, hvs, v1, v2, s, m, q, rfl, hb, i1, i2⟩ := hr.at hx
    refine ⟨g, s, m, q, rfl, hg, hlt, fun j v hj => ?_, hb, ?_, fun {p m' q'} hx' hA => ?_⟩
    · have hj3 : j < 3 := by rw [← v1]; exact (List.getElem?_eq_some_iff.1 hj).1
      have hf := flat_at (rel_lens hr) hvs j hj3
      rw [hj, ← ht, List.getElem?_take_of_lt (by omega)] at hf
      rw [cell_of_row w g _ _ e (0, 0) hh, ← Array.getElem?_toList]
      exact hf
    · simp [World.frozen?, hh]
    · have hgb := but_set w g (k * 3 + 2) (.slice p m' q')
      have hk : ∀ j, j < w.heap.size → A j → (w.setCell ⟨g, k * 3 + 2, none⟩ (.slice p m' q')).heap[j]? = w.heap[j]? := fun j hj ha => hgb.block j hj (fun e => hA j ha (Option.some.inj e))
      have hfs : (rows.set k (kkc x p m' q')).flatten = rows.flatten.set (k * 3 + 2) (.slice p m' q') := flat3_set (rel_lens hr) k _ _ _ _ hvs
      refine ⟨rows.set k (kkc x p m' q'), ?_, ?_, ?_⟩
      · exact Rel2.setR (hr.mono fun y vs ⟨a1, a2, a3⟩ => ⟨a1, a2, elK.keep hgb.size hk y vs a3⟩) k hx ⟨rfl, kkc_one _ _ _ _, p, m', q', rfl, hx'.keep hgb.size hk, i1, i2⟩
      · rw [hfs, List.length_set]
        exact h1
      · refine Or.inr ⟨g, c, cur.setIfInBounds (k * 3 + 2) (.slice p m' q'), rfl, hg, ?_, hn, hm, by simpa using hc, ?_⟩
        · rw [setCell_eq_setRow w g _ _ e (0, 0) _ hh, setRow_heap w g _ _ e (0, 0) hh]
        · rw [hfs, ← ht, Array.toList_setIfInBounds, List.take_set]
theorem OwK.keep {A : Nat → Prop} {e : TypeId} {w w' : World} {base : Nat} {v : Value} {l : List KekS} (h : OwS (elK A) 3 e w base v l) (hs : w.heap.size ≤ w'.heap.size) (hk : ∀ j, j < w.heap.size → A j → w'.heap[j]? = w.heap[j]?) (hv : ∀ j, v.ownBlock = some j → w'.heap[j]? = w.heap[j]?) : OwS (elK A) 3 e w' base v l := OwS.keep h (elK.keep hs hk) hv
theorem OwK.below {A : Nat → Prop} {e : TypeId} {w w' : World} {base : Nat} {v : Value} {l : List KekS} (h : OwS (elK A) 3 e w base v l) (hb : Below w.heap.size w w') : OwS (elK A) 3 e w' base v l := OwK.keep h hb.size (fun j hj _ => hb.block j hj) (fun j hj => hb.block j (h.lt j hj).2)
theorem OwK.mono {A A' : Nat → Prop} {e : TypeId} {w : World} {base : Nat} {v : Value} {l : List KekS} (h : OwS (elK A) 3 e w base v l) (hA : ∀ j, j < w.heap.size → A j → A' j) : OwS (elK A') 3 e w base v l := by
  obtain ⟨rows, hr, ho⟩ := h
  exact ⟨rows, hr.mono fun x vs ⟨a1, a2, a3⟩ => ⟨a1, a2, elK.mono hA x vs a3⟩, ho⟩

theorem OwK.lit0 {A : Nat → Prop} (w : World) : OwS (elK A) 3 78 (w.alloc (.cells #[] 78)) w.heap.size (.slice (some ⟨w.heap.size, 0, none⟩) 0 0) [] :=
  ⟨[], trivial, World.ownsRow_lit w #[] 0 (Nat.le_refl _) (by unfold maxLen; omega) (by simp)⟩
set_option maxRecDepth 100000 in
/-- Keys, one by one, in a new row: their bytes are the same ones. -/
theorem oCloneK (w : World) {A : Nat → Prop} {a : Option Addr} {n c : Nat} {l : List KekS} (h : Sl (elK A) 3 A w a n c l) (hn : n ≤ 100000) :
    Calls Try.prog 56 #[.slice a n c] w fun e w' => ∃ a' m' c', e = .returned (.slice a' m' c') ∧ OwS (elK fun j => A j ∧ j < w.heap.size) 3 78 w' w.heap.size (.slice a' m' c') l ∧ Below w.heap.size w w' := by
  cases a with
  | none =>
    have hl := Sl.len h
    have hc := Sl.cap h
    obtain ⟨_, _, _, _, _, h0, _⟩ := h
    have hc0 := h0 rfl
    clear h0
    obtain rfl : n = 0 := by omega
    subst hc0
    obtain rfl : l = [] := List.length_eq_zero_iff.1 hl
    have hq := eqNilK
    go_enter Try.func56, Try.ntmps56
    go_wp2_with fail
    go_ret
    exact ⟨none, 0, 0, rfl, OwS.nil _ _ _ _ _, Below.refl _ _⟩
  | some x =>
    have hl := Sl.len h
    have h1 : Sl (elK fun j => A j ∧ j < w.heap.size) 3 (fun j => A j ∧ j < w.heap.size) w (some x) n c l := h.mono (elK.mono fun j hj ha => ⟨ha, hj⟩) (fun j hj ha => ⟨ha, hj⟩)
    obtain ⟨B, hB⟩ : ∃ B : Nat → Prop, B = fun j => A j ∧ j < w.heap.size := ⟨_, rfl⟩
    rw [← hB] at h1 ⊢
    have HB : Hid (∀ j, B j → j < w.heap.size) := fun j hj => by rw [hB] at hj; exact hj.2
    have b0 : Below w.heap.size w (w.alloc (.cells #[] 78)) := below_alloc _ _
    have H : Hid (Sl (elK B) 3 B (w.alloc (.cells #[] 78)) (some x) n c l) := h1.keep b0.size (elK.keep b0.size fun j hj _ => b0.block j hj) (fun j hj _ => b0.block j hj)
    have H0 : Hid (OwS (elK B) 3 78 (w.alloc (.cells #[] 78)) w.heap.size (.slice (some ⟨w.heap.size, 0, none⟩) 0 0) []) := OwK.lit0 w
    clear h h1 hB
    have hq := eqSomeK
    go_enter Try.func56, Try.ntmps56
    go_wp2_with (at_builtin; go_loud (refine wpList_slapp (elK B) 3 40 23 78 _ Try.underlying23 infoKk rfl (by decide) (by decide) (w.alloc (.cells #[] 78)) rfl (.tmp 5) (.tmp 6) rfl w.heap.size (.slice (some ⟨w.heap.size, 0, none⟩) 0 0) [] rfl H0.out B (some x) n c l rfl H.out (by simp; omega) (by simp) (fun w' y vs hg hy => elK.keep hg.size (fun j hj ha => hg.block j hj (fun e => by have := HB.out j ha; simp [Value.ownBlock] at e; omega)) y vs hy) ?_; intro v1 w1 o1 b1; obtain ⟨a1, m1, c1, rfl, hm1⟩ := o1.shape))
    go_ret
    rw [List.nil_append] at o1
    exact ⟨a1, m1, c1, rfl, o1, b0.grown b1 b0.size (fun j hj => by simp [Value.ownBlock] at hj; omega)⟩

end Go.Proofs.Ytbifikeecmaakaa

/-
  Blocks of memory that are known whole ('Blk'): a variable of a call's own. What is read of them, and what stores make of them; whole arrays loaded and stored. No condition; no statement of the seat is proved here.
-/
namespace Go.Proofs.Ytbifikeecmaakaa
open Go.RowKit

/-- A row of bytes as an array value. -/
def bv (l : List UInt8) : Value := .agg (cs l).toArray

/-- The bytes that lie in a block from o on, as a slice. -/
theorem Blk.bs {w : World} {g : Nat} {vs : List Value} {t : TypeId} (h : Blk w g vs t) (o c : Nat) (l : List UInt8) (hl : ∀ j v, (cs l)[j]? = some v → vs[o + j]? = some v) (hc : l.length ≤ c) (hm : c ≤ 1000000) : Bs w (some ⟨g, o, none⟩) l.length c l := by
  refine ⟨rfl, hc, by unfold maxLen; omega, by simp, fun i hi => ⟨g, o, rfl, ?_⟩⟩
  rw [h.cell]
  exact hl i _ (cs_get hi)

theorem cs_sub {b : List UInt8} {o n j : Nat} {v : Value} (h : (cs ((b.drop o).take n))[j]? = some v) : (cs b)[o + j]? = some v := by
  simp only [cs, List.getElem?_map, List.getElem?_take, List.getElem?_drop] at h ⊢
  by_cases hj : j < n
  · simpa [hj] using h
  · simp [hj] at h

end Go.Proofs.Ytbifikeecmaakaa
