/-
  How slices of structs and bytes that were handed in are opened. No condition; no statement of the seat is proved here.
-/
import Derived.Test.YteilnckkmmgpcaaDskL
import Derived.Test.YteilnckkmmgpcaaOpenB
import Derived.Deep.Matrix
namespace Go.Proofs.Yteilnckkmmgpcaa
open Go.RowKit Go.ChangeShapes Go.WideShapes Go.ChangeAt

theorem Rel2.map {α β : Type} {R : α → β → Prop} {f : Nat → α} {g : Nat → β} : ∀ {L : List Nat}, (∀ i ∈ L, R (f i) (g i)) → Rel2 R (L.map f) (L.map g)
  | [], _ => trivial
  | a :: L, h => ⟨h a (by simp), Rel2.map fun i hi => h i (by simp [hi])⟩
theorem len_cons {l : List Value} {n : Nat} (h : l.length = n + 1) : ∃ a m, l = a :: m ∧ m.length = n := by
  cases l with
  | nil => simp at h
  | cons a m => exact ⟨a, m, rfl, by simpa using h⟩
theorem len_zero {l : List Value} (h : l.length = 0) : l = [] := List.length_eq_zero_iff.1 h
/-- Rows in memory, each of them a struct, are a slice of structs. -/
theorem Sl.of_rows {α : Type} (z0 : α) {el : World → α → List Value → Prop} {sz : Nat} {A : Nat → Prop} {W : World} {base : Nat} {y : Addr} {n c : Nat} (hsz : 0 < sz) (hl : n ≤ c) (hm : c ≤ maxLen) (hA : ∀ j, j < W.heap.size → A j)
    (hrow : ∀ i, i < n → ∃ cs', W.cells? base (y.add (i * sz)) sz = some cs' ∧ ∃ x, Row el sz W x cs') : ∃ l, Sl el sz A W (some y) n c l := by
  haveI : Inhabited α := ⟨z0⟩
  have hex : ∀ i, i < n → ∃ z : α × List Value, W.cells? base (y.add (i * sz)) sz = some z.2 ∧ Row el sz W z.1 z.2 := by
    intro i hi
    obtain ⟨cs', h1, x, h2⟩ := hrow i hi
    exact ⟨(x, cs'), h1, h2⟩
  obtain ⟨f, hf⟩ := Deep.choose_lt hex
  have hrel : Rel2 (Row el sz W) ((List.range n).map fun i => (f i).1) ((List.range n).map fun i => (f i).2) := Rel2.map fun i hi => (hf i (by simpa using hi)).2
  refine ⟨(List.range n).map fun i => (f i).1, (List.range n).map fun i => (f i).2, hrel, by simp, hl, hm, by simp, fun hn => ?_⟩
  obtain ⟨b, o, s⟩ := y
  have h00 := (hf 0 hn).1
  obtain ⟨_, hlen0, h0⟩ := World.cells?_some h00
  have hc0 := h0 0 hsz
  have hlt : 0 < (f 0).2.length := by omega
  rw [List.getElem?_eq_getElem hlt] at hc0
  have hs : s = none := by
    have := World.cell?_spot hc0
    simpa [Addr.add] using this
  subst hs
  rw [add_none, add_none] at hc0
  refine ⟨b, o, rfl, lt_of_cell hc0, hA _ (lt_of_cell hc0), ?_⟩
  intro j v hj
  have hflen := flatC_len (rel_lens hrel)
  have hjl : j < n * sz := by
    have := (List.getElem?_eq_some_iff.1 hj).1
    rw [hflen] at this
    simpa using this
  have hi : j / sz < n := (Nat.div_lt_iff_lt_mul hsz).2 hjl
  have hr : j % sz < sz := Nat.mod_lt _ hsz
  have hdm : j / sz * sz + j % sz = j := by rw [Nat.mul_comm]; exact Nat.div_add_mod j sz
  have hfl := flat_at (rel_lens hrel) (i := j / sz) (vs := (f (j / sz)).2) (by simp [hi]) (j % sz) hr
  rw [hdm, hj] at hfl
  obtain ⟨_, _, hcell⟩ := World.cells?_some (hf (j / sz) hi).1
  have hc := hcell (j % sz) hr
  rw [add_none, add_none, ← hfl, Nat.add_assoc, hdm] at hc
  exact hc

theorem BA.of_trod {H : Type} {enc : TypeId × Value → H} {W : World} {base : Nat} {held : Bool} {fuel : Nat} {a : Option Addr} {n c : Nat} {x : DataW H × List MemPlace} {A : Nat → Prop} (hA : ∀ j, j < W.heap.size → A j)
    (h : DataW.trod enc Try.prog W base (fun _ => true) held fuel 38 [.slice a n c] = some x) : ∃ l, BA A W a n c l := by
  obtain ⟨l, hb⟩ := Bs.of_trod h
  refine ⟨l, hb, fun hn => ?_⟩
  obtain ⟨b, o, ha, hlt, _⟩ := hb.at hn
  exact ⟨_, ha, hA _ hlt, hlt⟩
/-- A slice in a field. -/
theorem slice_of_trod {H : Type} {enc : TypeId × Value → H} {W : World} {base : Nat} {held : Bool} {fuel : Nat} {t e : TypeId} {v : Value} {x : DataW H × List MemPlace} (ht : Try.prog.underlying t = some (.slice e))
    (h : DataW.trod enc Try.prog W base (fun _ => true) held fuel t [v] = some x) : ∃ a n c, v = .slice a n c := by
  rcases Deep.open_slice ht h with ⟨hcs, _⟩ | ⟨y, len, cap, m, n', D, Pl, hcs, _⟩
  · simp at hcs
    exact ⟨_, _, _, hcs⟩
  · simp at hcs
    exact ⟨_, _, _, hcs⟩

end Go.Proofs.Yteilnckkmmgpcaa
