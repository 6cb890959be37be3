/-
  4 texts in one. No statement of the seat is proved here.
-/
import Derived.Test.YtnmmopneacdgfaaH19

/-
  The two words in which a node is parted are one. Condition: a node of one kind. Plain.
-/
namespace Go.Proofs.Ytnmmopneacdgfaa
open Go.RowKit
set_option linter.unusedVariables false
theorem prt_same {α : Type} {f : α → Nat} {l : List α} {G : Nat → Nat} (h : ∀ i, i < l.length → G i = greatL f l i + 3) : ∀ k, k < l.length → (prtG G k).1 = (prtL f l k).1 ∧ (k = 0 ∨ (prtG G k).2 = (prtL f l k).2 + 3)
  | 0, _ => ⟨rfl, Or.inl rfl⟩
  | k + 1, hk => by
    obtain ⟨a, b⟩ := prt_same h k (by omega)
    have e := h (k + 1) hk
    unfold prtG prtL
    rw [a, e]
    rcases b with rfl | b
    · have z : (prtL f l 0).1 = 0 := rfl
      rw [if_pos (Or.inl z), if_pos (Or.inl z)]
      exact ⟨rfl, Or.inr rfl⟩
    · by_cases c : (prtL f l k).1 = 0 ∨ greatL f l (k + 1) < (prtL f l k).2
      · rw [if_pos c, if_pos (by rcases c with c | c; exact Or.inl c; exact Or.inr (by omega))]
        exact ⟨rfl, Or.inr rfl⟩
      · rw [if_neg c, if_neg (by rintro (d | d); exact c (Or.inl d); exact c (Or.inr (by omega)))]
        exact ⟨a, Or.inr b⟩
theorem prtL_pos {α : Type} (f : α → Nat) (l : List α) : ∀ k, 1 ≤ (prtL f l (k + 1)).1 := fun k => by
  unfold prtL
  split
  · exact Nat.succ_le_succ (Nat.zero_le _)
  · rename_i h
    by_cases e : (prtL f l k).1 = 0
    · exact absurd (Or.inl e) h
    · omega
theorem partI_nil {α : Type} (f : α → Nat) : partI f ([] : List α) = 0 := rfl
theorem split_same {n : NodeS} (hk : kindOk n) : splitR n = splitN n := by
  obtain ⟨lf, ps, ks⟩ := n
  cases lf
  · have e : ps = [] := List.eq_nil_of_length_eq_zero (hk.2 rfl)
    subst e
    have hg : ∀ i, i < ks.length → grG ⟨false, [], ks⟩ i = greatL ksz ks i + 3 := fun i hi => by
      have hp := totL_parts ksz ks i
      have ht : (ks.drop i).take (ks.length - i) = ks.drop i := List.take_of_length_le (by simp)
      simp only [grG, thgs, cutN, sizeN, totL, greatL, Bool.false_eq_true, if_false, List.drop_zero, Nat.sub_zero, ht]
      split <;> split <;> omega
    unfold splitR splitN
    simp only [thgs, partI_nil, List.length_nil, Nat.zero_add, Bool.false_eq_true, if_false]
    by_cases h2 : ks.length < 2
    · have e : partI ksz ks = 0 := by
        unfold partI
        rw [show ks.length - 1 = 0 from by omega]
        rfl
      rw [if_pos h2, if_pos ⟨trivial, e⟩]
    · have e := (prt_same hg (ks.length - 1) (by omega)).1
      have hp : (prtG (grG ⟨false, [], ks⟩) (ks.length - 1)).1 = partI ksz ks := e
      have h1 : 1 ≤ partI ksz ks := by
        have := prtL_pos ksz ks (ks.length - 2)
        rw [show ks.length - 2 + 1 = ks.length - 1 from by omega] at this
        exact this
      rw [if_neg h2, if_neg (by omega), hp]
      have ht : ∀ i, (ks.drop i).take (ks.length - i) = ks.drop i := fun i => List.take_of_length_le (by simp)
      simp [cutN, ht]
  · have e : ks = [] := List.eq_nil_of_length_eq_zero (hk.1 rfl)
    subst e
    have hg : ∀ i, i < ps.length → grG ⟨true, ps, []⟩ i = greatL psz ps i + 3 := fun i hi => by
      have hp := totL_parts psz ps i
      have ht : (ps.drop i).take (ps.length - i) = ps.drop i := List.take_of_length_le (by simp)
      simp only [grG, thgs, cutN, sizeN, totL, greatL, if_true, List.drop_zero, Nat.sub_zero, ht]
      split <;> split <;> omega
    unfold splitR splitN
    simp only [thgs, partI_nil, List.length_nil, Nat.add_zero, if_true]
    by_cases h2 : ps.length < 2
    · have e : partI psz ps = 0 := by
        unfold partI
        rw [show ps.length - 1 = 0 from by omega]
        rfl
      rw [if_pos h2, if_pos ⟨e, trivial⟩]
    · have e := (prt_same hg (ps.length - 1) (by omega)).1
      have hp : (prtG (grG ⟨true, ps, []⟩) (ps.length - 1)).1 = partI psz ps := e
      have h1 : 1 ≤ partI psz ps := by
        have := prtL_pos psz ps (ps.length - 2)
        rw [show ps.length - 2 + 1 = ps.length - 1 from by omega] at this
        exact this
      rw [if_neg h2, if_neg (by omega), hp]
      have ht : ∀ i, (ps.drop i).take (ps.length - i) = ps.drop i := fun i => List.take_of_length_le (by simp)
      simp [cutN, ht]

end Go.Proofs.Ytnmmopneacdgfaa

/-
  A node of which all but the last thing fits is parted into two that fit. Condition: a node that is right but for its size, of two things at least. Plain.
-/
namespace Go.Proofs.Ytnmmopneacdgfaa
open Go.RowKit
set_option linter.unusedVariables false
theorem prtL_min {α : Type} (f : α → Nat) (l : List α) : ∀ k, 1 ≤ k → 1 ≤ (prtL f l k).1 ∧ (prtL f l k).1 ≤ k ∧ (prtL f l k).2 = greatL f l (prtL f l k).1 ∧ ∀ i, 1 ≤ i → i ≤ k → (prtL f l k).2 ≤ greatL f l i
  | 0, h => by omega
  | 1, _ => by
    have e : prtL f l 1 = (1, greatL f l 1) := by
      unfold prtL
      exact if_pos (Or.inl rfl)
    rw [e]
    refine ⟨Nat.le_refl _, Nat.le_refl _, rfl, fun i h1 h2 => ?_⟩
    obtain rfl : i = 1 := by omega
    exact Nat.le_refl _
  | k + 2, _ => by
    obtain ⟨a, b, c, d⟩ := prtL_min f l (k + 1) (by omega)
    rw [show prtL f l (k + 2) = if (prtL f l (k + 1)).1 = 0 ∨ greatL f l (k + 2) < (prtL f l (k + 1)).2 then (k + 2, greatL f l (k + 2)) else prtL f l (k + 1) from rfl]
    split
    · rename_i h
      refine ⟨by show 1 ≤ k + 2; omega, Nat.le_refl _, rfl, fun i h1 h2 => ?_⟩
      show greatL f l (k + 2) ≤ _
      by_cases e : i = k + 2
      · subst e; exact Nat.le_refl _
      · have := d i h1 (by omega)
        rcases h with h | h
        · omega
        · omega
    · rename_i h
      refine ⟨a, by omega, c, fun i h1 h2 => ?_⟩
      by_cases e : i = k + 2
      · subst e
        exact Nat.le_of_not_lt fun h' => h (Or.inr h')
      · exact d i h1 (by omega)
theorem parts_fit {α : Type} {f : α → Nat} {l : List α} {x : α} (h2 : 2 ≤ l.length) (hx : l[l.length - 1]? = some x) (hl : f x ≤ 493) (hs : totL f l ≤ 493 + f x) : totL f (l.take (partI f l)) ≤ 493 ∧ totL f (l.drop (partI f l)) ≤ 493 := by
  obtain ⟨a, b, c, d⟩ := prtL_min f l (l.length - 1) (by omega)
  have d := d (l.length - 1) (by omega) (Nat.le_refl _)
  rw [c] at d
  have hsn := totL_snoc f hx
  rw [show l.length - 1 + 1 = l.length from by omega, List.take_length] at hsn
  have hp := totL_parts f l (prtL f l (l.length - 1)).1
  unfold partI
  generalize (prtL f l (l.length - 1)).1 = t at *
  have hg : greatL f l (l.length - 1) ≤ 493 := by
    unfold greatL
    split <;> omega
  have hg2 : totL f (l.take t) ≤ greatL f l t ∧ totL f l - totL f (l.take t) ≤ greatL f l t := by
    unfold greatL
    split <;> omega
  omega
theorem rise_drop {α : Type} {key : α → List UInt8} : ∀ {l : List α} (k : Nat), riseB key l = true → riseB key (l.drop k) = true
  | [], k, _ => by simp [riseB]
  | a :: l, 0, h => h
  | a :: l, k + 1, h => by
    unfold riseB at h
    rw [Bool.and_eq_true] at h
    exact rise_drop (l := l) k h.2
theorem rise_take {α : Type} {key : α → List UInt8} : ∀ {l : List α} (k : Nat), riseB key l = true → riseB key (l.take k) = true
  | [], k, _ => by simp [riseB]
  | a :: l, 0, h => rfl
  | a :: l, k + 1, h => by
    unfold riseB at h
    rw [Bool.and_eq_true] at h
    have h2 := rise_take (l := l) k h.2
    have h1 := h.1
    rw [List.take_succ_cons]
    unfold riseB
    rw [h2, Bool.and_true]
    cases k with
    | zero => rfl
    | succ k =>
      cases l with
      | nil => rfl
      | cons b l => exact h1
theorem firstC_take {α : Type} {f : α → Int} {l : List α} (k : Nat) (h : firstC f l = 0) : firstC f (l.take k) = 0 := firstC_of fun x hx => firstC_all h x (List.mem_of_mem_take hx)
theorem firstC_dr {α : Type} {f : α → Int} {l : List α} (k : Nat) (h : firstC f l = 0) : firstC f (l.drop k) = 0 := firstC_of fun x hx => firstC_all h x (List.mem_of_mem_drop hx)
theorem Fine.cut {n : NodeS} (h : Fine n) (i j : Nat) : Fine ⟨n.leaf, n.pairs.take i, n.kids.take j⟩ ∧ Fine ⟨n.leaf, n.pairs.drop i, n.kids.drop j⟩ := by
  have e : ∀ {α : Type} {l : List α} (k : Nat), l.length = 0 → (l.take k).length = 0 ∧ (l.drop k).length = 0 := fun k h => by
    rw [List.eq_nil_of_length_eq_zero h]; simp
  exact ⟨⟨⟨fun a => (e j (h.kind.1 a)).1, fun a => (e i (h.kind.2 a)).1⟩, firstC_take i h.p, firstC_take j h.k, rise_take i h.rp, rise_take j h.rk⟩,
    ⟨⟨fun a => (e j (h.kind.1 a)).2, fun a => (e i (h.kind.2 a)).2⟩, firstC_dr i h.p, firstC_dr j h.k, rise_drop i h.rp, rise_drop j h.rk⟩⟩
/-- How many bytes the last thing takes. -/
def lastN (n : NodeS) : Nat := match n.kids[n.kids.length - 1]? with
  | some k => ksz k
  | none => match n.pairs[n.pairs.length - 1]? with
    | some p => psz p
    | none => 0
theorem lastKd {n : NodeS} {k : KidS} (h : n.kids[n.kids.length - 1]? = some k) : lastN n = ksz k := by
  unfold lastN; rw [h]
theorem lastPr {n : NodeS} {p : PairS} (h0 : n.kids = []) (h : n.pairs[n.pairs.length - 1]? = some p) : lastN n = psz p := by
  unfold lastN; rw [h0, h]; rfl
theorem psz_le {p : PairS} (h : chkP p = 0) : psz p ≤ 493 := by
  have := chkP_ok h
  unfold psz
  omega
theorem ksz_le {p : KidS} (h : chkD p = 0) : ksz p ≤ 493 := by
  have := chkD_ok h
  unfold ksz
  omega
theorem split_fits {n : NodeS} (h : Fine n) (hs : sizeN n ≤ 496 + lastN n) (h2 : (splitN n).2.2 = true) : chkN (splitN n).1 = 0 ∧ chkN (splitN n).2.1 = 0 := by
  obtain ⟨c1, c2⟩ := h.cut (partI psz n.pairs) (partI ksz n.kids)
  unfold splitN at h2 ⊢
  by_cases hz : partI psz n.pairs = 0 ∧ partI ksz n.kids = 0
  · rw [if_pos hz] at h2
    cases h2
  · rw [if_neg hz]
    suffices sizeN ⟨n.leaf, n.pairs.take (partI psz n.pairs), n.kids.take (partI ksz n.kids)⟩ ≤ 496 ∧ sizeN ⟨n.leaf, n.pairs.drop (partI psz n.pairs), n.kids.drop (partI ksz n.kids)⟩ ≤ 496 from ⟨chkN_of c1 this.1, chkN_of c2 this.2⟩
    have hlen : ∀ {α : Type} {f : α → Nat} {l : List α}, ¬ partI f l = 0 → 2 ≤ l.length := fun {α f l} e => by
      have := prtL_le f l (l.length - 1)
      unfold partI at e
      omega
    have hlast : ∀ {α : Type} {l : List α}, 2 ≤ l.length → ∃ x, l[l.length - 1]? = some x ∧ x ∈ l := fun {α l} e => ⟨l[l.length - 1]'(by omega), List.getElem?_eq_getElem _, List.getElem_mem _⟩
    obtain ⟨lf, ps, ks⟩ := n
    cases lf
    · have e : ps = [] := List.eq_nil_of_length_eq_zero (h.kind.2 rfl)
      subst e
      have h1 : ¬ partI ksz ks = 0 := fun e => hz ⟨rfl, e⟩
      obtain ⟨x, hx, hm⟩ := hlast (hlen h1)
      have hl : lastN ⟨false, [], ks⟩ = ksz x := lastKd hx
      have := parts_fit (hlen h1) hx (ksz_le (firstC_all h.k x hm)) (by unfold sizeN at hs; rw [hl] at hs; simp only [totL] at hs; omega)
      simp only [sizeN, partI_nil, List.take_nil, List.drop_nil, totL]
      omega
    · have e : ks = [] := List.eq_nil_of_length_eq_zero (h.kind.1 rfl)
      subst e
      have h1 : ¬ partI psz ps = 0 := fun e => hz ⟨e, rfl⟩
      obtain ⟨x, hx, hm⟩ := hlast (hlen h1)
      have hl : lastN ⟨true, ps, []⟩ = psz x := lastPr rfl hx
      have := parts_fit (hlen h1) hx (psz_le (firstC_all h.p x hm)) (by unfold sizeN at hs; rw [hl] at hs; simp only [totL] at hs; omega)
      simp only [sizeN, partI_nil, List.take_nil, List.drop_nil, totL]
      omega

end Go.Proofs.Ytnmmopneacdgfaa

/-
  Contracts of layer 18 in the form in which its law of parting uses them. Conditions: what each says.
-/
namespace Go.Proofs.Ytnmmopneacdgfaa
open Go.RowKit
set_option linter.unusedVariables false
theorem Ltd.cut {n : NodeS} (h : Ltd n) (i j : Nat) : Ltd ⟨n.leaf, n.pairs.take i, n.kids.take j⟩ ∧ Ltd ⟨n.leaf, n.pairs.drop i, n.kids.drop j⟩ := by
  have a := h.ps
  have b := h.ks
  refine ⟨⟨?_, ?_, fun x hx => h.p x (List.mem_of_mem_take hx), fun x hx => h.k x (List.mem_of_mem_take hx)⟩, ⟨?_, ?_, fun x hx => h.p x (List.mem_of_mem_drop hx), fun x hx => h.k x (List.mem_of_mem_drop hx)⟩⟩ <;> simp <;> omega
theorem Ltd.zero : Ltd zeroN := ⟨Nat.zero_le _, Nat.zero_le _, fun x hx => (List.not_mem_nil hx).elim, fun x hx => (List.not_mem_nil hx).elim⟩
theorem split_ltd {n S1 S2 : NodeS} {ok : Bool} (h : Ltd n) (hS : splitN n = (S1, S2, ok)) : Ltd S1 ∧ Ltd S2 := by
  unfold splitN at hS
  split at hS
  · cases hS; exact ⟨Ltd.zero, Ltd.zero⟩
  · cases hS; exact h.cut _ _
theorem pSplit {u : World} {n : NodeS} {p q : Tri} (h : Nd (fun _ => True) u n p q) (hL : Ltd n) {S1 S2 : NodeS} {ok : Bool} (hS : splitN n = (S1, S2, ok)) : Calls Try.prog 23 #[ndv n p q] u fun e w' => ∃ p1 q1 p2 q2, e = .returned (.tuple #[ndv S1 p1 q1, ndv S2 p2 q2, .bool ok]) ∧ Nd (fun _ => True) w' S1 p1 q1 ∧ Nd (fun _ => True) w' S2 p2 q2 ∧ Below u.heap.size u w' := by
  have := oSplitN u h hL.lit
  rw [hS] at this
  exact this.mono fun e w' h => by obtain ⟨p1, q1, p2, q2, h1, h2, h3, h4⟩ := h; exact ⟨p1, q1, p2, q2, h1, h2.mono fun _ _ _ => trivial, h3.mono fun _ _ _ => trivial, h4⟩
theorem qSplit {u : World} {n : NodeS} {p q : Tri} (h : Nd (fun _ => True) u n p q) (hL : Ltd n) (hk : kindOk n) {S1 S2 : NodeS} {ok : Bool} (hS : splitN n = (S1, S2, ok)) : Calls Try.prog 24 #[ndv n p q] u fun e w' => ∃ p1 q1 p2 q2, e = .returned (.tuple #[ndv S1 p1 q1, ndv S2 p2 q2, .bool ok]) ∧ Nd (fun _ => True) w' S1 p1 q1 ∧ Nd (fun _ => True) w' S2 p2 q2 ∧ Below u.heap.size u w' := by
  have := rSplitN u h hL hk
  rw [split_same hk, hS] at this
  exact this
theorem pSize {u : World} {n : NodeS} {p q : Tri} (h : Nd (fun _ => True) u n p q) (hl : Lit n) {s : Nat} (hs : sizeN n = s) : Calls Try.prog 17 #[ndv n p q] u fun e w' => e = .returned (.int .i64 (s : Int)) ∧ Below u.heap.size u w' := by
  subst hs
  exact rSizeN u h hl
theorem split_nil {n S1 S2 : NodeS} {ok : Bool} (hS : splitN n = (S1, S2, ok)) (h1 : n.pairs = []) (h2 : n.kids = []) : ok = false := by
  unfold splitN at hS
  rw [h1, h2, if_pos ⟨rfl, rfl⟩] at hS
  cases hS
  rfl
theorem split_fit {n S1 S2 : NodeS} (hS : splitN n = (S1, S2, true)) (hF : Fine n) {s L : Nat} (h1 : sizeN n = s) (h2 : lastN n = L) (h : s ≤ 496 + L) : chkN S1 = 0 ∧ chkN S2 = 0 := by
  subst h1 h2
  have := split_fits hF h (by rw [hS])
  rw [hS] at this
  exact this
theorem last_pairs {n : NodeS} {m : Nat} (hF : Fine n) (h : n.pairs.length = m + 1) : n.kids.length = 0 ∧ ∃ x, n.pairs[m]? = some x ∧ lastN n = psz x := by
  have hk : n.kids = [] := List.eq_nil_of_length_eq_zero (by
    cases e : n.leaf
    · have := hF.kind.2 e; omega
    · exact hF.kind.1 e)
  refine ⟨by rw [hk]; rfl, n.pairs[m]'(by omega), List.getElem?_eq_getElem _, lastPr hk ?_⟩
  exact (congrArg (fun i => n.pairs[i]?) (show n.pairs.length - 1 = m by omega)).trans (List.getElem?_eq_getElem _)
theorem last_kids {n : NodeS} {m : Nat} (hF : Fine n) (h : n.kids.length = m + 1) : n.pairs.length = 0 ∧ ∃ x, n.kids[m]? = some x ∧ lastN n = ksz x := by
  refine ⟨?_, n.kids[m]'(by omega), List.getElem?_eq_getElem _, lastKd ?_⟩
  · cases e : n.leaf
    · exact hF.kind.2 e
    · have := hF.kind.1 e; omega
  exact (congrArg (fun i => n.kids[i]?) (show n.kids.length - 1 = m by omega)).trans (List.getElem?_eq_getElem _)
theorem box2 (u : World) (g : Nat) (vs : List Value) (hv : vs.length = 2) (hg : g = u.heap.size) {W : World} (hW : W = (u.alloc (.cells #[.slice none 0 0, .slice none 0 0] 44)).setCells g 0 vs) : Below u.heap.size u W ∧ Blk W g vs 44 := by
  subst hg hW
  exact ⟨below_sets (Nat.le_refl _) _ (below_alloc _ _) 0, Blk.setsW (Blk.newAt u _ _ _ rfl _ rfl) vs hv⟩

end Go.Proofs.Ytnmmopneacdgfaa

/-
  How the arguments of layer 18's statements are opened: nodes. No condition; no statement of the seat is proved here.
-/
namespace Go.Proofs.Ytnmmopneacdgfaa
open Go.RowKit Go.ChangeShapes Go.WideShapes Go.ChangeAt
set_option linter.unusedVariables false

theorem pair_of_trod {H : Type} {enc : TypeId × Value → H} {W : World} {base : Nat} {held : Bool} {fuel : Nat} {cs : List Value} {x : DataW H × List MemPlace} {A : Nat → Prop} (hA : ∀ j, j < W.heap.size → A j)
    (h : DataW.trod enc Try.prog W base (fun _ => true) held fuel 44 cs = some x) : ∃ o, Row (elPr A) 2 W o cs := by
  obtain ⟨xs, n, rfl, rfl, hl, hx, hf⟩ := DataW.trod_struct Try.underlying44 h
  have cP : Try.prog.cellsOf 44 = 2 := by kernel_rfl
  rw [cP] at hl
  have c_B : Try.prog.cellsOf 26 = 1 := by kernel_rfl
  obtain ⟨v0, cs0, rfl, hl0⟩ := len_cons hl
  obtain ⟨v1, cs1, rfl, hl1⟩ := len_cons hl0
  obtain rfl := len_zero hl1
  have f0 : DataW.trod enc Try.prog W base (fun _ => true) held n 26 (List.take (Try.prog.cellsOf 26) (List.drop 0 [v0, v1])) = xs[0]? := hf 0 _ rfl
  have f1 : DataW.trod enc Try.prog W base (fun _ => true) held n 26 (List.take (Try.prog.cellsOf 26) (List.drop 1 [v0, v1])) = xs[1]? := hf 1 _ rfl
  have hxl : xs.length = 2 := hx
  rw [c_B] at f0 f1
  rw [List.getElem?_eq_getElem (by omega)] at f0 f1
  simp only [List.drop_succ_cons, List.drop_zero, List.take_succ_cons, List.take_zero] at f0 f1
  obtain ⟨a, m, c, rfl⟩ := slice_of_trod Try.underlying26 f0
  obtain ⟨l, hb⟩ := BA.of_trod hA f0
  obtain ⟨a2, m2, c2, rfl⟩ := slice_of_trod Try.underlying26 f1
  obtain ⟨l2, hb2⟩ := BA.of_trod hA f1
  exact ⟨⟨l, l2⟩, elPr.row ⟨a, m, c, a2, m2, c2, rfl, hb, hb2⟩⟩
theorem kid_of_trod {H : Type} {enc : TypeId × Value → H} {W : World} {base : Nat} {held : Bool} {fuel : Nat} {cs : List Value} {x : DataW H × List MemPlace} {A : Nat → Prop} (hA : ∀ j, j < W.heap.size → A j)
    (h : DataW.trod enc Try.prog W base (fun _ => true) held fuel 46 cs = some x) : ∃ o, Row (elKd A) 3 W o cs := by
  obtain ⟨xs, n, rfl, rfl, hl, hx, hf⟩ := DataW.trod_struct Try.underlying46 h
  have cP : Try.prog.cellsOf 46 = 3 := by kernel_rfl
  rw [cP] at hl
  have c_3 : Try.prog.cellsOf 3 = 1 := by kernel_rfl
  have c_B : Try.prog.cellsOf 26 = 1 := by kernel_rfl
  obtain ⟨v0, cs0, rfl, hl0⟩ := len_cons hl
  obtain ⟨v1, cs1, rfl, hl1⟩ := len_cons hl0
  obtain ⟨v2, cs2, rfl, hl2⟩ := len_cons hl1
  obtain rfl := len_zero hl2
  have f0 : DataW.trod enc Try.prog W base (fun _ => true) held n 26 (List.take (Try.prog.cellsOf 26) (List.drop 0 [v0, v1, v2])) = xs[0]? := hf 0 _ rfl
  have f1 : DataW.trod enc Try.prog W base (fun _ => true) held n 3 (List.take (Try.prog.cellsOf 3) (List.drop 1 [v0, v1, v2])) = xs[1]? := hf 1 _ rfl
  have f2 : DataW.trod enc Try.prog W base (fun _ => true) held n 3 (List.take (Try.prog.cellsOf 3) (List.drop 2 [v0, v1, v2])) = xs[2]? := hf 2 _ rfl
  have hxl : xs.length = 3 := hx
  rw [c_B] at f0
  rw [c_3] at f1 f2
  rw [List.getElem?_eq_getElem (by omega)] at f0 f1 f2
  obtain ⟨p, e1, _, w1⟩ := DataW.trod_int Try.underlying3 f1
  obtain ⟨q, e2, _, w2⟩ := DataW.trod_int Try.underlying3 f2
  simp only [List.drop_zero, List.take_succ_cons, List.take_zero] at f0
  obtain ⟨a, m, c, rfl⟩ := slice_of_trod Try.underlying26 f0
  obtain ⟨l, hb⟩ := BA.of_trod hA f0
  simp at e1 e2
  subst e1 e2
  exact ⟨⟨l, p, q⟩, elKd.row ⟨a, m, c, rfl, hb, bounds_i64 w1, bounds_i64 w2⟩⟩
theorem pairs_of_trod {H : Type} {enc : TypeId × Value → H} {W : World} {base : Nat} {held : Bool} {fuel : Nat} {a : Option Addr} {n c : Nat} {x : DataW H × List MemPlace} {A : Nat → Prop} (hA : ∀ j, j < W.heap.size → A j)
    (h : DataW.trod enc Try.prog W base (fun _ => true) held fuel 22 [.slice a n c] = some x) : ∃ l, SlP A W a n c l := by
  rcases Deep.open_slice Try.underlying22 h with ⟨hcs, _⟩ | ⟨y, len, cap, m, n', D, Pl, hcs, _, hl, hm, hmm, _, hrow⟩
  · simp at hcs
    obtain ⟨rfl, rfl, rfl⟩ := hcs
    exact ⟨[], Sl.nil _ _ _ _⟩
  · simp at hcs
    obtain ⟨rfl, rfl, rfl⟩ := hcs
    have cP : Try.prog.cellsOf 44 = 2 := by kernel_rfl
    rw [cP] at hrow
    simp at hmm
    subst hmm
    refine Sl.of_rows (⟨[], []⟩ : PairS) (base := base) (by omega) hl hm hA fun i hi => ?_
    obtain ⟨cs', h1, h2⟩ := hrow i (by omega)
    exact ⟨cs', h1, pair_of_trod hA h2⟩
theorem kids_of_trod {H : Type} {enc : TypeId × Value → H} {W : World} {base : Nat} {held : Bool} {fuel : Nat} {a : Option Addr} {n c : Nat} {x : DataW H × List MemPlace} {A : Nat → Prop} (hA : ∀ j, j < W.heap.size → A j)
    (h : DataW.trod enc Try.prog W base (fun _ => true) held fuel 23 [.slice a n c] = some x) : ∃ l, SlD A W a n c l := by
  rcases Deep.open_slice Try.underlying23 h with ⟨hcs, _⟩ | ⟨y, len, cap, m, n', D, Pl, hcs, _, hl, hm, hmm, _, hrow⟩
  · simp at hcs
    obtain ⟨rfl, rfl, rfl⟩ := hcs
    exact ⟨[], Sl.nil _ _ _ _⟩
  · simp at hcs
    obtain ⟨rfl, rfl, rfl⟩ := hcs
    have cP : Try.prog.cellsOf 46 = 3 := by kernel_rfl
    rw [cP] at hrow
    simp at hmm
    subst hmm
    refine Sl.of_rows (⟨[], 0, 0⟩ : KidS) (base := base) (by omega) hl hm hA fun i hi => ?_
    obtain ⟨cs', h1, h2⟩ := hrow i (by omega)
    exact ⟨cs', h1, kid_of_trod hA h2⟩
/-- A node that was handed in. -/
def NdIn (w : World) (n : NodeS) (p q : Tri) : Prop := Nd (fun j => j < w.heap.size) w n p q
set_option maxRecDepth 100000 in
theorem okWide_nd {W : World} {b0 : Nat} {v : Value} (h : Value.okWide Try.prog W .any b0 25 v) : ∃ xs : Array Value, v = .agg xs := by
  simp only [Value.okWide, Try.underlying25] at h
  obtain ⟨cs, h1, _⟩ := h
  exact ⟨cs, h1⟩
theorem node_of_trod {H : Type} {enc : TypeId × Value → H} {W : World} {base : Nat} {held : Bool} {fuel : Nat} {xs : Array Value} {x : DataW H × List MemPlace}
    (h : DataW.trod enc Try.prog W base (fun _ => true) held fuel 25 (Value.agg xs).cells.toList = some x) : ∃ a p q, xs = (ndc a p q).toArray ∧ NdIn W a p q := by
  have h' : DataW.trod enc Try.prog W base (fun _ => true) held fuel 25 xs.toList = some x := h
  obtain ⟨ys, n, rfl, rfl, hl, hx, hf⟩ := DataW.trod_struct Try.underlying25 h'
  have cP : Try.prog.cellsOf 25 = 3 := by kernel_rfl
  rw [cP] at hl
  have c_4 : Try.prog.cellsOf 4 = 1 := by kernel_rfl
  have c_P : Try.prog.cellsOf 22 = 1 := by kernel_rfl
  have c_K : Try.prog.cellsOf 23 = 1 := by kernel_rfl
  obtain ⟨v0, cs0, e0, hl0⟩ := len_cons hl
  obtain ⟨v1, cs1, rfl, hl1⟩ := len_cons hl0
  obtain ⟨v2, cs2, rfl, hl2⟩ := len_cons hl1
  obtain rfl := len_zero hl2
  rw [e0] at hf
  have f0 : DataW.trod enc Try.prog W base (fun _ => true) held n 4 (List.take (Try.prog.cellsOf 4) (List.drop 0 [v0, v1, v2])) = ys[0]? := hf 0 _ rfl
  have f1 : DataW.trod enc Try.prog W base (fun _ => true) held n 22 (List.take (Try.prog.cellsOf 22) (List.drop 1 [v0, v1, v2])) = ys[1]? := hf 1 _ rfl
  have f2 : DataW.trod enc Try.prog W base (fun _ => true) held n 23 (List.take (Try.prog.cellsOf 23) (List.drop 2 [v0, v1, v2])) = ys[2]? := hf 2 _ rfl
  have hxl : ys.length = 3 := hx
  rw [c_4] at f0
  rw [c_P] at f1
  rw [c_K] at f2
  rw [List.getElem?_eq_getElem (by omega)] at f0 f1 f2
  obtain ⟨d, e4, _⟩ := DataW.trod_bool Try.underlying4 f0
  simp only [List.drop_succ_cons, List.drop_zero, List.take_succ_cons, List.take_zero] at f1 f2
  obtain ⟨pa, pn, pc, rfl⟩ := slice_of_trod Try.underlying22 f1
  obtain ⟨ps, hp⟩ := pairs_of_trod (A := fun j => j < W.heap.size) (fun _ h => h) f1
  obtain ⟨qa, qn, qc, rfl⟩ := slice_of_trod Try.underlying23 f2
  obtain ⟨ks, hk⟩ := kids_of_trod (A := fun j => j < W.heap.size) (fun _ h => h) f2
  simp at e4
  subst e4
  exact ⟨⟨d, ps, ks⟩, ⟨pa, pn, pc⟩, ⟨qa, qn, qc⟩, by apply Array.toList_inj.1; exact e0, hp, hk⟩

end Go.Proofs.Ytnmmopneacdgfaa
