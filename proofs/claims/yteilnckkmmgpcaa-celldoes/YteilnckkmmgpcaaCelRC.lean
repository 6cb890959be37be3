/-
  An element of a slice of slices of the call's own, replaced. No condition; no statement of the seat is proved here.
-/
import Derived.Test.YteilnckkmmgpcaaCelRA
namespace Go.Proofs.Yteilnckkmmgpcaa
open Go.RowKit

theorem flat1_set : ∀ {rows : List (List Value)} (_ : ∀ vs ∈ rows, vs.length = 1) (k : Nat) (u : Value), (rows.set k [u]).flatten = rows.flatten.set k u
  | [], _, k, u => by simp
  | r :: rows, h, 0, u => by
    obtain ⟨x, rfl⟩ := List.length_eq_one_iff.1 (h r (by simp))
    simp
  | r :: rows, h, k + 1, u => by
    obtain ⟨x, rfl⟩ := List.length_eq_one_iff.1 (h r (by simp))
    have hx : ∀ vs ∈ rows, vs.length = 1 := fun v hv => h v (List.mem_cons_of_mem _ hv)
    have := flat1_set hx k u
    simpa using this
theorem Rel2.set {α β : Type} {R : α → β → Prop} : ∀ {l : List α} {m : List β}, Rel2 R l m → ∀ (k : Nat) {x : α} {y : β}, R x y → Rel2 R (l.set k x) (m.set k y)
  | [], [], _, k, x, y, _ => by simp [Rel2]
  | _ :: _, _ :: _, h, 0, x, y, hr => ⟨hr, h.2⟩
  | _ :: _, _ :: _, h, k + 1, x, y, hr => ⟨h.1, Rel2.set h.2 k hr⟩
  | [], _ :: _, h, _, _, _, _ => h.elim
  | _ :: _, [], h, _, _, _, _ => h.elim
/-- out.L[k] = s. -/
theorem OwB.set {A : Nat → Prop} {e : TypeId} {w : World} {base : Nat} {a : Option Addr} {n c : Nat} {l : List (List UInt8)} (h : OwS (elB A) 1 e w base (.slice a n c) l) (he : e ≠ 5) {k : Nat} (hk : k < l.length) :
    ∃ g, a = some ⟨g, 0, none⟩ ∧ base ≤ g ∧ g < w.heap.size ∧ (∃ u, w.cell? ⟨g, k, none⟩ = some u) ∧ w.frozen? ⟨g, k, none⟩ = false ∧
      ∀ {p : Option Addr} {m q : Nat} {x : List UInt8}, B5 A w p m q x → OwS (elB A) 1 e (w.setCell ⟨g, k, none⟩ (.slice p m q)) base (.slice a n c) (l.set k x) := by
  have h5 := OwS.not5 h he
  obtain ⟨rows, hr, h1, h2⟩ := h
  rcases h2 with ⟨hv, h0⟩ | ⟨g, cap, cur, hv, hg, hh, hn, hm, hc, ht⟩
  · omega
  · simp only [Value.slice.injEq] at hv
    obtain ⟨rfl, rfl, rfl⟩ := hv
    have hlt : g < w.heap.size := (Array.getElem?_eq_some_iff.1 hh).1
    have hks : k < cur.size := by rw [hc]; omega
    refine ⟨g, rfl, hg, hlt, ⟨cur[k], ?_⟩, ?_, fun {p m q x} hx => ?_⟩
    · rw [cell_of_row w g k _ e (0, 0) hh]
      simp [hks]
    · simp [World.frozen?, hh]
    · have hgb := but_set w g k (.slice p m q)
      have hel := elB.grown (A := A) hgb (fun j cur f hj => h5 j cur f (by rw [← hj]; rfl))
      refine ⟨rows.set k [.slice p m q], ?_, ?_, ?_⟩
      · exact Rel2.set (hr.mono fun y vs ⟨a1, a2, a3⟩ => ⟨a1, a2, hel y vs a3⟩) k ⟨rfl, by intro v hv; simp at hv; subst hv; rfl, p, m, q, rfl, hx.grown hgb (fun j cur f hj => h5 j cur f (by rw [← hj]; rfl))⟩
      · rw [flat1_set (rel_lens hr), List.length_set, List.length_set]
        exact h1
      · refine Or.inr ⟨g, c, cur.setIfInBounds k (.slice p m q), by rw [List.length_set], hg, ?_, by rw [List.length_set]; exact hn, hm, by simpa using hc, ?_⟩
        · rw [setCell_eq_setRow w g k _ e (0, 0) _ hh, setRow_heap w g _ _ e (0, 0) hh]
        · rw [flat1_set (rel_lens hr), List.length_set, ← ht]
          rw [Array.toList_setIfInBounds, List.take_set]

theorem OwB.mono {A A' : Nat → Prop} {e : TypeId} {w : World} {base : Nat} {v : Value} {l : List (List UInt8)} (h : OwS (elB A) 1 e w base v l) (hA : ∀ j, j < w.heap.size → A j → A' j) : OwS (elB A') 1 e w base v l := by
  obtain ⟨rows, hr, ho⟩ := h
  exact ⟨rows, hr.mono fun x vs ⟨a1, a2, p, m, q, e, hb⟩ => ⟨a1, a2, p, m, q, e, hb.mono hA⟩, ho⟩

end Go.Proofs.Yteilnckkmmgpcaa
