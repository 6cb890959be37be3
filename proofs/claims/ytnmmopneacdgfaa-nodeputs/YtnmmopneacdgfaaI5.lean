/-
  7 texts in one. No statement of the seat is proved here.
-/
import Derived.Test.YtnmmopneacdgfaaI4
import Derived.Deep.MidRow
import Derived.Deep.Matrix
import Derived.OrdersHeld
import Derived.Deep.RegionHeld3
/-
  Rows of slices of bytes that a call made itself ('OwnV'), and the laws on append and make over them. No condition; no statement of the seat is proved here.
-/
namespace Go.Proofs.Ytnmmopneacdgfaa
open Go.RowKit

/-- The value v is a slice of the values vs (slices of bytes), in memory of the call's own from block 'base' on. -/
def OwnV (w : World) (base : Nat) (v : Value) (vs : List Value) : Prop := w.ownsRow base 26 1 v vs.length vs

theorem OwnV.below {w w' : World} {base B : Nat} {v : Value} {vs : List Value} (h : OwnV w base v vs) (hb : Below B w w') (hB : w.heap.size ≤ B) : OwnV w' base v vs := by
  obtain ⟨h1, h2⟩ := h
  refine ⟨h1, ?_⟩
  rcases h2 with h2 | ⟨g, cap, cur, hv, hg, hh, r⟩
  · exact Or.inl h2
  · refine Or.inr ⟨g, cap, cur, hv, hg, ?_, r⟩
    have hlt : g < w.heap.size := by
      by_cases e : g < w.heap.size
      · exact e
      · rw [Array.getElem?_eq_none (by omega)] at hh; simp at hh
    rw [hb.block g (by omega)]
    exact hh
theorem OwnV.size {w : World} {base : Nat} {v : Value} {vs : List Value} (h : OwnV w base v vs) : ∀ k, v.ownBlock = some k → base ≤ k := fun k hk => (World.ownsRow.lt h k hk).1
theorem OwnV.lt {w : World} {base : Nat} {v : Value} {vs : List Value} (h : OwnV w base v vs) : ∀ k, v.ownBlock = some k → k < w.heap.size := fun k hk => (World.ownsRow.lt h k hk).2

/-- What is owned, as a slice of slices. -/
theorem OwnV.bss {w : World} {base : Nat} {v : Value} {vs : List Value} {ls : List (List UInt8)} (h : OwnV w base v vs) (hl : ls.length = vs.length) (hv : ∀ i, i < vs.length → ∃ p m q, vs[i]? = some (.slice p m q) ∧ Bs w p m q (ls.getD i [])) :
    ∃ a c, v = .slice a vs.length c ∧ Bss w a vs.length c ls := by
  have h' := h
  obtain ⟨h1, h2⟩ := h
  rcases h2 with ⟨rfl, h0⟩ | ⟨g, cap, cur, rfl, hg, hh, hn, hm, r⟩
  · rw [h0]
    exact ⟨none, 0, rfl, by omega, Nat.le_refl _, Nat.zero_le _, fun i hi => by omega⟩
  · refine ⟨_, cap, rfl, hl, hn, hm, fun i hi => ?_⟩
    obtain ⟨p, m, q, e, hb⟩ := hv i hi
    refine ⟨g, 0, p, m, q, rfl, ?_, hb⟩
    have := World.ownsRow.cellAt h' i (by omega)
    rw [e] at this
    simpa using this

theorem one_one {a : Option Addr} {m c : Nat} (u : Value) (h : u ∈ ([.slice a m c] : List Value)) : u.oneCell' = true := by
  simp only [List.mem_singleton] at h
  subst h
  rfl


end Go.Proofs.Ytnmmopneacdgfaa

/-
  Plain mathematics of layer 8: what power is, and what each call makes of it; and what a call leaves that writes some blocks alone ('Kp'). No condition; nothing of the program.
-/
namespace Go.Proofs.Ytnmmopneacdgfaa
open Go.RowKit

/-- Of all that lay in w, the blocks of F alone may be others in w'. -/
structure Kp (F : Nat → Prop) (w w' : World) : Prop where
  os : w'.os = w.os
  tape : w'.tape = w.tape
  output : w'.output = w.output
  size : w.heap.size ≤ w'.heap.size
  block : ∀ k, k < w.heap.size → ¬ F k → w'.heap[k]? = w.heap[k]?

theorem Kp.refl (F : Nat → Prop) (w : World) : Kp F w w := ⟨rfl, rfl, rfl, Nat.le_refl _, fun _ _ _ => rfl⟩
theorem Kp.trans {F : Nat → Prop} {a b c : World} (h : Kp F a b) (k : Kp F b c) : Kp F a c :=
  ⟨k.os.trans h.os, k.tape.trans h.tape, k.output.trans h.output, Nat.le_trans h.size k.size, fun i hi hn => (k.block i (Nat.lt_of_lt_of_le hi h.size) hn).trans (h.block i hi hn)⟩
theorem Kp.mono {F G : Nat → Prop} {w w' : World} (h : Kp F w w') (hG : ∀ k, k < w.heap.size → F k → G k) : Kp G w w' :=
  ⟨h.os, h.tape, h.output, h.size, fun k hk hn => h.block k hk (fun hf => hn (hG k hk hf))⟩
theorem Kp.of_below {F : Nat → Prop} {w w' : World} (h : Below w.heap.size w w') : Kp F w w' := ⟨h.os, h.tape, h.output, h.size, fun k hk _ => h.block k hk⟩
theorem Kp.below {F : Nat → Prop} {w w' : World} (h : Kp F w w') {B : Nat} (hB : B ≤ w.heap.size) (hF : ∀ k, k < B → ¬ F k) : Below B w w' := ⟨h.os, h.tape, h.output, h.size, fun k hk => h.block k (by omega) (hF k hk)⟩
theorem Kp.of_grown {w w' : World} {r : Nat} (h : w.grownBy w' (some r)) : Kp (fun k => k = r) w w' := ⟨h.os, h.tape, h.output, h.size, fun k hk hn => h.block k hk (fun e => hn (Option.some.inj e))⟩
theorem Kp.grown {w w' : World} {r : Nat} (h : Kp (fun k => k = r) w w') : w.grownBy w' (some r) := ⟨h.os, h.tape, h.output, h.size, fun k hk hn => h.block k hk (fun e => hn (by rw [e]))⟩
theorem Kp.alloc {F : Nat → Prop} {a w : World} (h : Kp F a w) (o : Obj) : Kp F a (w.alloc o) := h.trans (Kp.of_below (below_alloc w o))
theorem Kp.drew {F : Nat → Prop} {a w : World} (h : Kp F a w) (n : Nat) : Kp F a (w.drewN n) := h.trans (Kp.of_below (below_drewN' w n))
theorem Kp.blk {F : Nat → Prop} {w w' : World} (h : Kp F w w') {g : Nat} {vs : List Value} {t : TypeId} (hb : Blk w g vs t) (hg : ¬ F g) : Blk w' g vs t := by
  unfold Blk
  rw [h.block g hb.lt hg]
  exact hb
theorem Kp.setC {F : Nat → Prop} {w : World} {g : Nat} (hg : F g) (i : Nat) (v : Value) : Kp F w (w.setCell ⟨g, i, none⟩ v) :=
  (Kp.of_grown (but_set w g i v)).mono fun k _ e => by rw [e]; exact hg
/-- What lay in w lies in w' too, but for F: all that lay below B, none of which is F's. -/
theorem below_kp {B : Nat} {F : Nat → Prop} {w w1 w' : World} (h : Below B w w1) (k : Kp F w1 w') (hB : B ≤ w1.heap.size) (hF : ∀ k, k < B → ¬ F k) : Below B w w' := h.trans (k.below hB hF)

/-- Power: how many steps there were; behind how many more it goes (below 0: it does not); is what is atomic done then; has it gone? -/
structure PowS where
  steps : Nat
  fuse : Int
  done : Bool
  down : Bool
def PowS.new : PowS := ⟨0, -1, false, false⟩
def PowS.set (S : PowS) (n : Int) (d : Bool) : PowS := ⟨S.steps, if n < 0 then -1 else n, d, S.down⟩
def PowS.ok (S : PowS) : Bool := !S.down && !decide (S.fuse = 0)
def PowS.does (S : PowS) : Bool := !S.down && (!decide (S.fuse = 0) || S.done)
def PowS.next (S : PowS) : PowS := if S.down then S else if S.fuse < 0 then ⟨S.steps + 1, S.fuse, S.done, false⟩ else ⟨S.steps + 1, S.fuse - 1, S.done, decide (S.fuse = 0)⟩
def PowS.back (S : PowS) : PowS := ⟨S.steps, -1, false, false⟩
/-- Numbers that are numbers of the language, and steps that are not too many. -/
def PowS.fit (S : PowS) (m : Nat) : Prop := S.steps ≤ m ∧ -1 ≤ S.fuse ∧ S.fuse ≤ 9223372036854775807
theorem PowS.fit_mono {S : PowS} {m n : Nat} (h : S.fit m) (hm : m ≤ n) : S.fit n := ⟨by have := h.1; omega, h.2⟩
/-- As the reference's value. -/
def pv (S : PowS) : Value := .agg #[.int .i64 (S.steps : Int), .int .i64 S.fuse, .bool S.done, .bool S.down]
/-- Its cells. -/
def pc (S : PowS) : List Value := [.int .i64 (S.steps : Int), .int .i64 S.fuse, .bool S.done, .bool S.down]

end Go.Proofs.Ytnmmopneacdgfaa

/-
  Slices of structs that hold bytes: what such a slice holds ('Sl'), rows of them that a call made itself ('OwS'), bytes that lie in blocks of bytes ('B5'), how they outlast what is made and written, and append over them. No condition; no statement of the seat is proved here.
-/
namespace Go.Proofs.Ytnmmopneacdgfaa
open Go.RowKit

/-- Two lists, element by element. -/
def Rel2 {α β : Type} (R : α → β → Prop) : List α → List β → Prop
  | [], [] => True
  | a :: l, b :: m => R a b ∧ Rel2 R l m
  | [], _ :: _ => False
  | _ :: _, [] => False
theorem Rel2.len {α β : Type} {R : α → β → Prop} : ∀ {l : List α} {m : List β}, Rel2 R l m → l.length = m.length
  | [], [], _ => rfl
  | _ :: _, _ :: _, h => by simp [Rel2.len h.2]
  | [], _ :: _, h => h.elim
  | _ :: _, [], h => h.elim
theorem Rel2.append {α β : Type} {R : α → β → Prop} : ∀ {l : List α} {m : List β} {l' : List α} {m' : List β}, Rel2 R l m → Rel2 R l' m' → Rel2 R (l ++ l') (m ++ m')
  | [], [], _, _, _, h' => h'
  | _ :: _, _ :: _, _, _, h, h' => ⟨h.1, Rel2.append h.2 h'⟩
  | [], _ :: _, _, _, h, _ => h.elim
  | _ :: _, [], _, _, h, _ => h.elim
theorem Rel2.mono {α β : Type} {R R' : α → β → Prop} (hR : ∀ a b, R a b → R' a b) : ∀ {l : List α} {m : List β}, Rel2 R l m → Rel2 R' l m
  | [], [], _ => trivial
  | _ :: _, _ :: _, h => ⟨hR _ _ h.1, Rel2.mono hR h.2⟩
  | [], _ :: _, h => h.elim
  | _ :: _, [], h => h.elim
theorem Rel2.at {α β : Type} {R : α → β → Prop} : ∀ {l : List α} {m : List β}, Rel2 R l m → ∀ {i : Nat} {x : α}, l[i]? = some x → ∃ y, m[i]? = some y ∧ R x y
  | [], [], _, i, x, hx => by simp at hx
  | a :: l, b :: m, h, 0, x, hx => ⟨b, rfl, by simp at hx; subst hx; exact h.1⟩
  | a :: l, b :: m, h, i + 1, x, hx => by simpa using Rel2.at h.2 (by simpa using hx)
  | [], _ :: _, h, _, _, _ => h.elim
  | _ :: _, [], h, _, _, _ => h.elim
theorem Rel2.mem {α β : Type} {R : α → β → Prop} : ∀ {l : List α} {m : List β}, Rel2 R l m → ∀ y ∈ m, ∃ x ∈ l, R x y
  | [], [], _, y, hy => by cases hy
  | a :: l, b :: m, h, y, hy => by
    rcases List.mem_cons.1 hy with rfl | hy
    · exact ⟨a, by simp, h.1⟩
    · obtain ⟨x, hx, hr⟩ := Rel2.mem h.2 y hy
      exact ⟨x, by simp [hx], hr⟩
  | [], _ :: _, h, _, _ => h.elim
  | _ :: _, [], h, _, _ => h.elim
/-- Rows of like lengths, one behind the other. -/
theorem flat_at {sz : Nat} : ∀ {rows : List (List Value)}, (∀ vs ∈ rows, vs.length = sz) → ∀ {i : Nat} {vs : List Value}, rows[i]? = some vs → ∀ j, j < sz → rows.flatten[i * sz + j]? = vs[j]?
  | [], _, i, vs, h, j, hj => by simp at h
  | r :: rows, hl, 0, vs, h, j, hj => by
    have h0 := hl r (by simp)
    simp at h
    subst h
    rw [List.flatten_cons, Nat.zero_mul, Nat.zero_add, List.getElem?_append_left (by omega)]
  | r :: rows, hl, i + 1, vs, h, j, hj => by
    have h0 := hl r (by simp)
    rw [List.flatten_cons, List.getElem?_append_right (by rw [h0, Nat.succ_mul]; omega), show (i + 1) * sz + j - r.length = i * sz + j from by rw [h0, Nat.succ_mul]; omega]
    exact flat_at (fun v hv => hl v (by simp [hv])) (by simpa using h) j hj
theorem flatC_len {sz : Nat} : ∀ {rows : List (List Value)}, (∀ vs ∈ rows, vs.length = sz) → rows.flatten.length = rows.length * sz
  | [], _ => by simp
  | r :: rows, hl => by
    rw [List.flatten_cons, List.length_append, hl r (by simp), flatC_len (fun v hv => hl v (by simp [hv])), List.length_cons, Nat.succ_mul]
    omega

/-- The bytes b in a block of bytes, of those in A. -/
def B5 (A : Nat → Prop) (w : World) (p : Option Addr) (m q : Nat) (b : List UInt8) : Prop :=
  Bs w p m q b ∧ (0 < m → ∃ x cur f, p = some x ∧ A x.block ∧ w.heap[x.block]? = some (.cells cur 5 f))
theorem B5.bs {A : Nat → Prop} {w : World} {p : Option Addr} {m q : Nat} {b : List UInt8} (h : B5 A w p m q b) : Bs w p m q b := h.1
theorem B5.mono {A A' : Nat → Prop} {w : World} {p : Option Addr} {m q : Nat} {b : List UInt8} (h : B5 A w p m q b) (hA : ∀ j, j < w.heap.size → A j → A' j) : B5 A' w p m q b :=
  ⟨h.1, fun hm => by
    obtain ⟨x, cur, f, hp, ha, hb⟩ := h.2 hm
    exact ⟨x, cur, f, hp, hA _ (Array.getElem?_eq_some_iff.1 hb).1 ha, hb⟩⟩
theorem B5.keep {A : Nat → Prop} {w w' : World} {p : Option Addr} {m q : Nat} {b : List UInt8} (h : B5 A w p m q b) (hk : ∀ j cur f, A j → w.heap[j]? = some (.cells cur 5 f) → w'.heap[j]? = w.heap[j]?) : B5 A w' p m q b := by
  obtain ⟨⟨h1, h2, h3, h4, h5⟩, h6⟩ := h
  refine ⟨⟨h1, h2, h3, h4, fun i hi => ?_⟩, fun hm => ?_⟩
  · obtain ⟨x, cur, f, hp, ha, hb⟩ := h6 (by omega)
    obtain ⟨bb, o, hp', hc⟩ := h5 i hi
    refine ⟨bb, o, hp', ?_⟩
    rw [hp] at hp'
    obtain rfl := Option.some.inj hp'
    rw [World.cell?_of_block (w := w) (hk bb cur f ha hb)]
    exact hc
  · obtain ⟨x, cur, f, hp, ha, hb⟩ := h6 hm
    exact ⟨x, cur, f, hp, ha, by rw [hk _ cur f ha hb]; exact hb⟩
theorem B5.below {A : Nat → Prop} {w w' : World} {p : Option Addr} {m q : Nat} {b : List UInt8} (h : B5 A w p m q b) (hb : Below w.heap.size w w') : B5 A w' p m q b :=
  h.keep fun j _ _ _ hh => hb.block j (Array.getElem?_eq_some_iff.1 hh).1
theorem B5.kp {A F : Nat → Prop} {w w' : World} {p : Option Addr} {m q : Nat} {b : List UInt8} (h : B5 A w p m q b) (k : Kp F w w') (hA : ∀ j, A j → ¬ F j) : B5 A w' p m q b :=
  h.keep fun j _ _ ha hh => k.block j (Array.getElem?_eq_some_iff.1 hh).1 (hA j ha)
/-- A block that is not one of bytes was written. -/
theorem B5.grown {A : Nat → Prop} {w w' : World} {r : Option Nat} {p : Option Addr} {m q : Nat} {b : List UInt8} (h : B5 A w p m q b) (g : w.grownBy w' r) (hr : ∀ j cur f, r = some j → w.heap[j]? ≠ some (.cells cur 5 f)) : B5 A w' p m q b :=
  h.keep fun j cur f _ hh => g.block j (Array.getElem?_eq_some_iff.1 hh).1 fun e => hr j cur f e.symm hh
theorem Own.b5 {A : Nat → Prop} {w : World} {base : Nat} {p : Option Addr} {m q : Nat} {l : List UInt8} (h : Own w base (.slice p m q) l) (hA : ∀ j, base ≤ j → j < w.heap.size → A j) : B5 A w p m q l := by
  refine ⟨h.toBs, fun hm => ?_⟩
  rcases h.2 with ⟨e, h0⟩ | ⟨g, cap, cur, e, hb, hg, _⟩
  · simp only [Value.slice.injEq] at e
    omega
  · simp only [Value.slice.injEq] at e
    obtain ⟨rfl, _, _⟩ := e
    exact ⟨_, cur, (0, 0), rfl, hA g hb (Array.getElem?_eq_some_iff.1 hg).1, hg⟩
theorem B5.nil (A : Nat → Prop) (w : World) : B5 A w none 0 0 [] := ⟨Bs.nil w, fun h => by omega⟩

/-- What one struct's cells must be. -/
def Row {α : Type} (el : World → α → List Value → Prop) (sz : Nat) (w : World) (x : α) (vs : List Value) : Prop := vs.length = sz ∧ (∀ u ∈ vs, u.oneCell' = true) ∧ el w x vs
/-- The slice (a, n, c) holds the structs l, in a block of A. -/
def Sl {α : Type} (el : World → α → List Value → Prop) (sz : Nat) (A : Nat → Prop) (w : World) (a : Option Addr) (n c : Nat) (l : List α) : Prop :=
  ∃ rows, Rel2 (Row el sz w) l rows ∧ l.length = n ∧ n ≤ c ∧ c ≤ maxLen ∧ (a = none → c = 0) ∧ (0 < n → ∃ b o, a = some ⟨b, o, none⟩ ∧ b < w.heap.size ∧ A b ∧ w.rangeAt b o rows.flatten)
/-- The value v is a slice of the structs l, in memory of the call's own from block base on. -/
def OwS {α : Type} (el : World → α → List Value → Prop) (sz : Nat) (e : TypeId) (w : World) (base : Nat) (v : Value) (l : List α) : Prop :=
  ∃ rows, Rel2 (Row el sz w) l rows ∧ w.ownsRow base e sz v l.length rows.flatten
theorem rel_lens {α : Type} {el : World → α → List Value → Prop} {sz : Nat} {w : World} {l : List α} {rows : List (List Value)} (h : Rel2 (Row el sz w) l rows) : ∀ vs ∈ rows, vs.length = sz := fun vs hv => by
  obtain ⟨x, _, hr⟩ := h.mem vs hv
  exact hr.1
theorem rel_ones {α : Type} {el : World → α → List Value → Prop} {sz : Nat} {w : World} {l : List α} {rows : List (List Value)} (h : Rel2 (Row el sz w) l rows) : ∀ u ∈ rows.flatten, u.oneCell' = true := fun u hu => by
  obtain ⟨vs, hv, hu⟩ := List.mem_flatten.1 hu
  obtain ⟨x, _, hr⟩ := h.mem vs hv
  exact hr.2.1 u hu
theorem Sl.nil {α : Type} (el : World → α → List Value → Prop) (sz : Nat) (A : Nat → Prop) (w : World) : Sl el sz A w none 0 0 [] := ⟨[], trivial, rfl, Nat.le_refl _, Nat.zero_le _, fun _ => rfl, fun h => by omega⟩
theorem OwS.nil {α : Type} (el : World → α → List Value → Prop) (sz : Nat) (e : TypeId) (w : World) (base : Nat) : OwS el sz e w base (.slice none 0 0) [] := ⟨[], trivial, World.ownsRow_nil _ _ _ _⟩
theorem Sl.len {α : Type} {el : World → α → List Value → Prop} {sz : Nat} {A : Nat → Prop} {w : World} {a : Option Addr} {n c : Nat} {l : List α} (h : Sl el sz A w a n c l) : l.length = n := by
  obtain ⟨_, _, h, _⟩ := h
  exact h
theorem Sl.cap {α : Type} {el : World → α → List Value → Prop} {sz : Nat} {A : Nat → Prop} {w : World} {a : Option Addr} {n c : Nat} {l : List α} (h : Sl el sz A w a n c l) : n ≤ c ∧ c ≤ maxLen := by
  obtain ⟨_, _, _, h1, h2, _⟩ := h
  exact ⟨h1, h2⟩
/-- The i-th struct. -/
theorem Sl.at {α : Type} {el : World → α → List Value → Prop} {sz : Nat} {A : Nat → Prop} {w : World} {a : Option Addr} {n c : Nat} {l : List α} (h : Sl el sz A w a n c l) {i : Nat} {x : α} (hx : l[i]? = some x) :
    ∃ b o vs, a = some ⟨b, o, none⟩ ∧ b < w.heap.size ∧ w.rangeAt b (o + i * sz) vs ∧ vs.length = sz ∧ el w x vs := by
  obtain ⟨rows, hr, hl, _, _, _, hb⟩ := h
  have hi : i < l.length := (List.getElem?_eq_some_iff.1 hx).1
  obtain ⟨b, o, ha, hlt, _, hrg⟩ := hb (by omega)
  obtain ⟨vs, hv, h1, h2, h3⟩ := hr.at hx
  refine ⟨b, o, vs, ha, hlt, fun j v hj => ?_, h1, h3⟩
  have hjs : j < sz := by rw [← h1]; exact (List.getElem?_eq_some_iff.1 hj).1
  have := hrg (i * sz + j) v (by rw [flat_at (rel_lens hr) hv j hjs]; exact hj)
  rw [← Nat.add_assoc] at this
  exact this
theorem Sl.keep {α : Type} {el : World → α → List Value → Prop} {sz : Nat} {A : Nat → Prop} {w w' : World} {a : Option Addr} {n c : Nat} {l : List α} (h : Sl el sz A w a n c l) (hs : w.heap.size ≤ w'.heap.size) (he : ∀ x vs, el w x vs → el w' x vs) (hk : ∀ j, j < w.heap.size → A j → w'.heap[j]? = w.heap[j]?) : Sl el sz A w' a n c l := by
  obtain ⟨rows, hr, h1, h2, h3, h4, h5⟩ := h
  refine ⟨rows, hr.mono fun x vs ⟨a1, a2, a3⟩ => ⟨a1, a2, he x vs a3⟩, h1, h2, h3, h4, fun hn => ?_⟩
  obtain ⟨b, o, ha, hlt, hA, hrg⟩ := h5 hn
  exact ⟨b, o, ha, Nat.lt_of_lt_of_le hlt hs, hA, fun j v hj => by rw [World.cell?_of_block (w := w) (hk b hlt hA)]; exact hrg j v hj⟩
theorem Sl.mono {α : Type} {el el' : World → α → List Value → Prop} {sz : Nat} {A A' : Nat → Prop} {w : World} {a : Option Addr} {n c : Nat} {l : List α} (h : Sl el sz A w a n c l) (he : ∀ x vs, el w x vs → el' w x vs) (hA : ∀ j, j < w.heap.size → A j → A' j) : Sl el' sz A' w a n c l := by
  obtain ⟨rows, hr, h1, h2, h3, h4, h5⟩ := h
  refine ⟨rows, hr.mono fun x vs ⟨a1, a2, a3⟩ => ⟨a1, a2, he x vs a3⟩, h1, h2, h3, h4, fun hn => ?_⟩
  obtain ⟨b, o, ha, hlt, hA1, hrg⟩ := h5 hn
  exact ⟨b, o, ha, hlt, hA b hlt hA1, hrg⟩
/-- What is owned is a slice. -/
theorem OwS.sl {α : Type} {el : World → α → List Value → Prop} {sz : Nat} {e : TypeId} {A : Nat → Prop} {w : World} {base : Nat} {v : Value} {l : List α} (h : OwS el sz e w base v l) (hA : ∀ j, base ≤ j → j < w.heap.size → A j) : ∃ a c, v = .slice a l.length c ∧ Sl el sz A w a l.length c l := by
  obtain ⟨rows, hr, h1, h2⟩ := h
  rcases h2 with ⟨rfl, h0⟩ | ⟨g, cap, cur, rfl, hg, hh, hn, hm, hc, ht⟩
  · refine ⟨none, 0, by rw [h0], rows, hr, rfl, by omega, Nat.zero_le _, fun _ => rfl, fun hn => by omega⟩
  · have hlt : g < w.heap.size := (Array.getElem?_eq_some_iff.1 hh).1
    refine ⟨_, cap, rfl, rows, hr, rfl, hn, hm, fun e => by simp at e, fun _ => ⟨g, 0, rfl, hlt, hA g hg hlt, fun j u hj => ?_⟩⟩
    rw [Nat.zero_add, cell_of_row w g j _ e (0, 0) hh]
    have hjl : j < rows.flatten.length := (List.getElem?_eq_some_iff.1 hj).1
    rw [← ht, List.getElem?_take_of_lt (by rw [← h1]; exact hjl)] at hj
    simpa using hj
theorem OwS.shape {α : Type} {el : World → α → List Value → Prop} {sz : Nat} {e : TypeId} {w : World} {base : Nat} {v : Value} {l : List α} (h : OwS el sz e w base v l) : ∃ a n c, v = .slice a n c ∧ l.length = n := by
  obtain ⟨a, c, hv, _⟩ := h.sl (A := fun _ => True) (fun _ _ _ => trivial)
  exact ⟨a, _, c, hv, rfl⟩
theorem OwS.sl3 {α : Type} {el : World → α → List Value → Prop} {sz : Nat} {e : TypeId} {A : Nat → Prop} {w : World} {base : Nat} {a : Option Addr} {n c : Nat} {l : List α} (h : OwS el sz e w base (.slice a n c) l) (hA : ∀ j, base ≤ j → j < w.heap.size → A j) : Sl el sz A w a n c l := by
  obtain ⟨a', c', hv, hs⟩ := h.sl hA
  simp only [Value.slice.injEq] at hv
  obtain ⟨rfl, rfl, rfl⟩ := hv
  exact hs
theorem OwS.keep {α : Type} {el : World → α → List Value → Prop} {sz : Nat} {e : TypeId} {w w' : World} {base : Nat} {v : Value} {l : List α} (h : OwS el sz e w base v l) (he : ∀ x vs, el w x vs → el w' x vs) (hk : ∀ j, v.ownBlock = some j → w'.heap[j]? = w.heap[j]?) : OwS el sz e w' base v l := by
  obtain ⟨rows, hr, h1, h2⟩ := h
  refine ⟨rows, hr.mono fun x vs ⟨a1, a2, a3⟩ => ⟨a1, a2, he x vs a3⟩, h1, ?_⟩
  rcases h2 with h2 | ⟨g, cap, cur, rfl, hg, hh, r⟩
  · exact Or.inl h2
  · exact Or.inr ⟨g, cap, cur, rfl, hg, by rw [hk g rfl]; exact hh, r⟩
theorem OwS.lt {α : Type} {el : World → α → List Value → Prop} {sz : Nat} {e : TypeId} {w : World} {base : Nat} {v : Value} {l : List α} (h : OwS el sz e w base v l) : ∀ k, v.ownBlock = some k → base ≤ k ∧ k < w.heap.size := by
  obtain ⟨rows, hr, ho⟩ := h
  exact fun k hk => World.ownsRow.lt ho k hk
theorem OwS.type {α : Type} {el : World → α → List Value → Prop} {sz : Nat} {e : TypeId} {w : World} {base : Nat} {v : Value} {l : List α} (h : OwS el sz e w base v l) : ∀ k, v.ownBlock = some k → ∃ cur, w.heap[k]? = some (.cells cur e (0, 0)) := by
  obtain ⟨rows, hr, ho⟩ := h
  intro k hk
  rcases ho.2 with ⟨rfl, _⟩ | ⟨g, cap, cur, rfl, _, hh, _⟩
  · simp [Value.ownBlock] at hk
  · simp only [Value.ownBlock, Option.some.injEq] at hk
    subst hk
    exact ⟨cur, hh⟩
theorem OwS.not5 {α : Type} {el : World → α → List Value → Prop} {sz : Nat} {e : TypeId} {w : World} {base : Nat} {v : Value} {l : List α} (h : OwS el sz e w base v l) (he : e ≠ 5) : ∀ j cur f, v.ownBlock = some j → w.heap[j]? ≠ some (.cells cur 5 f) := fun j cur f hj hh => by
  obtain ⟨cur', h'⟩ := h.type j hj
  rw [h'] at hh
  simp only [Option.some.injEq, Obj.cells.injEq] at hh
  exact he hh.2.1

/-- 'append(out, src...)' of structs, out the call's own. -/
theorem wpList_slapp {α : Type} (el : World → α → List Value → Prop) (sz by_ : Nat) (t e : TypeId) (z : Value) (ht : Try.prog.underlying t = some (.slice e)) (hi : (Try.prog.info? e).map (fun i => (i.zero, i.size, i.bytes)) = some (some z, sz, by_)) (hzs : z.cells.size = sz) (hsz : 0 < sz) (hby : by_ ≤ 1000)
    {ops : Array Oper} {rest : List Oper} {o : Oper} {a : Act} {Q : Exit → Act → World → Prop} (w : World) (hgd : o.guard = none) (s x : Operand)
    (ho : o.op = Op.call { callee := Callee.builtin Builtin.append, args := #[s, x], argTypes := #[t, t] }) (base : Nat) (v : Value) (l : List α) (hs : a.eval s = v) (hown : OwS el sz e w base v l)
    (A : Nat → Prop) (ao : Option Addr) (m c : Nat) (news : List α) (hx : a.eval x = .slice ao m c) (hsrc : Sl el sz A w ao m c news) (hz : l.length + news.length ≤ 1000000) (hbase : base ≤ w.heap.size)
    (hel : ∀ w' x vs, w.grownBy w' v.ownBlock → el w x vs → el w' x vs)
    (h : ∀ v' w', OwS el sz e w' base v' (l ++ news) → w.grownBy w' v.ownBlock → wpList Try.prog ops Q rest (a.put o.dst v') w') : wpList Try.prog ops Q (o :: rest) a w := by
  obtain ⟨i0, hi, hz0, hz1, hz2⟩ := info_parts hi
  obtain ⟨rows, hr, howr⟩ := hown
  obtain ⟨rows2, hr2, hl2, hn2, hc2, ha2, hb2⟩ := hsrc
  by_cases hm : m = 0
  · subst hm
    have e1 : news = [] := List.length_eq_zero_iff.1 hl2
    subst e1
    have e2 : rows2 = [] := List.length_eq_zero_iff.1 (by rw [← hr2.len]; rfl)
    subst e2
    cases ao with
    | none =>
      have hc0 := ha2 rfl
      subst hc0
      refine wpList_append_own_none hgd s x t ho base e i0 sz ht hi v _ _ hs howr hx ?_
      refine h v w ⟨rows, ?_, ?_⟩ (World.grownBy.refl _ _)
      · rw [List.append_nil]
        exact hr
      · rw [List.append_nil]
        exact howr
    | some ad =>
      refine wpList_append_own w hgd s x t ho base e i0 z sz by_ ht hi hz0 hz1 hz2 hzs hsz v _ _ hs howr ad 0 c [] hx (by simp) (fun j u hj => by simp at hj) (fun u hu => by cases hu) (by simp at hz; unfold maxLen; omega) (by simp at hz; rw [Nat.add_zero]; have := Nat.mul_le_mul hz hby; omega) hbase ?_
      intro v' w' ho' hg _
      refine h v' w' ⟨rows, ?_, ?_⟩ hg
      · rw [List.append_nil]
        exact hr.mono fun y vs ⟨a1, a2, a3⟩ => ⟨a1, a2, hel w' y vs hg a3⟩
      · rw [List.append_nil]
        rw [List.append_nil, Nat.add_zero] at ho'
        exact ho'
  · obtain ⟨b, o', rfl, hlt, hA, hrg⟩ := hb2 (by omega)
    have hfl := flatC_len (rel_lens hr2)
    have hrl := hr2.len
    refine wpList_append_own w hgd s x t ho base e i0 z sz by_ ht hi hz0 hz1 hz2 hzs hsz v _ _ hs howr ⟨b, o', none⟩ m c rows2.flatten hx (by rw [hfl, ← hrl, hl2]) (fun j u hj => by rw [add_none]; exact hrg j u hj) (rel_ones hr2) (by unfold maxLen; omega) (by have := Nat.mul_le_mul (show l.length + m ≤ 1000000 by omega) hby; omega) hbase ?_
    intro v' w' ho' hg _
    refine h v' w' ⟨rows ++ rows2, ?_, ?_⟩ hg
    · exact (hr.mono fun y vs ⟨a1, a2, a3⟩ => ⟨a1, a2, hel w' y vs hg a3⟩).append (hr2.mono fun y vs ⟨a1, a2, a3⟩ => ⟨a1, a2, hel w' y vs hg a3⟩)
    · rw [List.flatten_append, List.length_append, hl2]
      exact ho'

/-- A slice of one struct out of a literal. -/
theorem Sl.one {α : Type} {el : World → α → List Value → Prop} {sz : Nat} {A : Nat → Prop} {w : World} {g : Nat} {vs : List Value} {t : TypeId} {x : α} (hb : Blk w g vs t) (hr : Row el sz w x vs) (hA : A g) : Sl el sz A w (some ⟨g, 0, none⟩) 1 1 [x] :=
  ⟨[vs], ⟨hr, trivial⟩, rfl, Nat.le_refl _, by unfold maxLen; omega, fun e => by simp at e, fun _ => ⟨g, 0, rfl, hb.lt, hA, by simpa using hb.whole⟩⟩

end Go.Proofs.Ytnmmopneacdgfaa

/-
  Plain mathematics of layer 9: what a disk is, and what each call makes of it; how the reference's disk lies in memory ('RD'). No condition; nothing of the program.
-/
namespace Go.Proofs.Ytnmmopneacdgfaa
open Go.RowKit

abbrev Chg := Int × List UInt8
abbrev Tch := Int × Int × List UInt8
structure Pok where
  on : Int
  at_ : Int
  kind : Int
  bytes : List UInt8
  num : Int
/-- A disk: the power, how many blocks, all that is safe (the eldest first), what waits, what was seen, what somebody else does, how many steps there were. -/
structure DskS where
  p : PowS
  n : Int
  safe : List Chg
  loose : List Chg
  seen : List Tch
  plot : List Pok
  steps : Nat

def z512 : List UInt8 := List.replicate 512 0
/-- Bytes as a block. -/
def fitB (b : List UInt8) : List UInt8 := (b ++ z512).take 512
/-- A block so many changes ago, of changes the newest first. -/
def agoR : List Chg → Int → Nat → List UInt8
  | [], _, _ => z512
  | c :: l, at_, k => if c.1 = at_ then (match k with | 0 => c.2 | k + 1 => agoR l at_ k) else agoR l at_ k
def lookR : List Chg → Int → Option (List UInt8)
  | [], _ => none
  | c :: l, at_ => if c.1 = at_ then some c.2 else lookR l at_
def DskS.ago (D : DskS) (at_ : Int) (k : Nat) : List UInt8 := agoR D.safe.reverse at_ k
def DskS.look (D : DskS) (at_ : Int) : List UInt8 := (lookR D.loose.reverse at_).getD (D.ago at_ 0)
def DskS.settle (D : DskS) (at_ : Int) (b : List UInt8) : DskS := { D with safe := D.safe ++ [(at_, fitB b)] }
/-- What somebody else does is nothing. -/
abbrev DskS.idle (D : DskS) (x : Pok) : Prop := x.at_ < 0 ∨ D.n ≤ x.at_ ∨ x.kind < 0 ∨ 2 < x.kind ∨ (0 < x.kind ∧ x.num < 0) ∨ (x.kind = 1 ∧ D.n ≤ x.num)
def DskS.bytesOf (D : DskS) (x : Pok) : List UInt8 := if x.kind = 2 then D.ago x.at_ x.num.toNat else if x.kind = 1 then D.look x.num else x.bytes
def DskS.poke (D : DskS) (x : Pok) : DskS := if D.idle x then D else { D.settle x.at_ (D.bytesOf x) with loose := D.loose.filter fun c => decide (c.1 ≠ x.at_) }
def DskS.pokes (D : DskS) (s : Nat) (l : List Pok) : DskS := l.foldl (fun out x => if x.on = (s : Int) then out.poke x else out) D
def DskS.tick (D : DskS) : DskS := { D.pokes D.steps D.plot with p := D.p.next, steps := if D.p.down then D.steps else D.steps + 1 }
def DskS.see (D : DskS) (t : Tch) : DskS := { D with seen := D.seen ++ [t] }
def DskS.new (p : PowS) (n : Int) : DskS := ⟨p, n, [], [], [], [], 0⟩

/-- Bytes in a block of A. -/
def BA (A : Nat → Prop) (w : World) (p : Option Addr) (m q : Nat) (b : List UInt8) : Prop := Bs w p m q b ∧ (0 < m → ∃ x, p = some x ∧ A x.block ∧ x.block < w.heap.size)
theorem BA.keep {A : Nat → Prop} {w w' : World} {p : Option Addr} {m q : Nat} {b : List UInt8} (h : BA A w p m q b) (hs : w.heap.size ≤ w'.heap.size) (hk : ∀ j, j < w.heap.size → A j → w'.heap[j]? = w.heap[j]?) : BA A w' p m q b := by
  obtain ⟨⟨h1, h2, h3, h4, h5⟩, h6⟩ := h
  refine ⟨⟨h1, h2, h3, h4, fun i hi => ?_⟩, fun hm => ?_⟩
  · obtain ⟨x, hp, ha, hb⟩ := h6 (by omega)
    obtain ⟨bb, o, hp', hc⟩ := h5 i hi
    refine ⟨bb, o, hp', ?_⟩
    rw [hp] at hp'
    obtain rfl := Option.some.inj hp'
    rw [World.cell?_of_block (w := w) (hk bb hb ha)]
    exact hc
  · obtain ⟨x, hp, ha, hb⟩ := h6 hm
    exact ⟨x, hp, ha, Nat.lt_of_lt_of_le hb hs⟩
theorem B5.ba {A : Nat → Prop} {w : World} {p : Option Addr} {m q : Nat} {b : List UInt8} (h : B5 A w p m q b) : BA A w p m q b := ⟨h.1, fun hm => by
  obtain ⟨x, cur, f, hp, ha, hb⟩ := h.2 hm
  exact ⟨x, hp, ha, (Array.getElem?_eq_some_iff.1 hb).1⟩⟩

def i64 (x : Int) : Prop := -9223372036854775808 ≤ x ∧ x ≤ 9223372036854775807
def elC (A : Nat → Prop) (w : World) (c : Chg) (vs : List Value) : Prop := ∃ p m q, vs = [.int .i64 c.1, .slice p m q] ∧ B5 A w p m q c.2 ∧ i64 c.1
def elT (A : Nat → Prop) (w : World) (t : Tch) (vs : List Value) : Prop := ∃ p m q, vs = [.int .i64 t.1, .int .i64 t.2.1, .slice p m q] ∧ B5 A w p m q t.2.2 ∧ i64 t.1 ∧ i64 t.2.1
def elP (A : Nat → Prop) (w : World) (x : Pok) (vs : List Value) : Prop := ∃ p m q, vs = [.int .i64 x.on, .int .i64 x.at_, .int .i64 x.kind, .slice p m q, .int .i64 x.num] ∧ BA A w p m q x.bytes ∧ i64 x.on ∧ i64 x.at_ ∧ i64 x.kind ∧ i64 x.num
/-- The four slices of the reference's disk. -/
structure Quad where
  sa : Option Addr
  sn : Nat
  sc : Nat
  la : Option Addr
  ln : Nat
  lc : Nat
  ta : Option Addr
  tn : Nat
  tc : Nat
  pa : Option Addr
  pn : Nat
  pq : Nat
/-- Its cells. -/
def dc (D : DskS) (q : Quad) : List Value := [.int .i64 (D.p.steps : Int), .int .i64 D.p.fuse, .bool D.p.done, .bool D.p.down, .int .i64 D.n, .slice q.sa q.sn q.sc, .slice q.la q.ln q.lc, .slice q.ta q.tn q.tc, .slice q.pa q.pn q.pq, .int .i64 (D.steps : Int)]
def dv (D : DskS) (q : Quad) : Value := .agg (dc D q).toArray
/-- The reference's disk in memory. -/
structure RD (A : Nat → Prop) (w : World) (D : DskS) (q : Quad) : Prop where
  safe : Sl (elC A) 2 A w q.sa q.sn q.sc D.safe
  loose : Sl (elC A) 2 A w q.la q.ln q.lc D.loose
  seen : Sl (elT A) 3 A w q.ta q.tn q.tc D.seen
  plot : Sl (elP A) 5 A w q.pa q.pn q.pq D.plot
/-- What is too much. -/
structure DskS.fit (D : DskS) (m : Nat) : Prop where
  p : D.p.fit m
  n : 1 ≤ D.n ∧ D.n ≤ 4096
  safe : D.safe.length ≤ 100 * m
  loose : D.loose.length ≤ m
  seen : D.seen.length ≤ m
  plot : D.plot.length ≤ 30
  steps : D.steps ≤ m

theorem elC.keep {A : Nat → Prop} {w w' : World} (hk : ∀ j, j < w.heap.size → A j → w'.heap[j]? = w.heap[j]?) : ∀ c vs, elC A w c vs → elC A w' c vs := by
  rintro c vs ⟨p, m, q, e, hb, hi⟩
  exact ⟨p, m, q, e, hb.keep fun j _ _ ha hh => hk j (Array.getElem?_eq_some_iff.1 hh).1 ha, hi⟩
theorem elT.keep {A : Nat → Prop} {w w' : World} (hk : ∀ j, j < w.heap.size → A j → w'.heap[j]? = w.heap[j]?) : ∀ c vs, elT A w c vs → elT A w' c vs := by
  rintro c vs ⟨p, m, q, e, hb, hi⟩
  exact ⟨p, m, q, e, hb.keep fun j _ _ ha hh => hk j (Array.getElem?_eq_some_iff.1 hh).1 ha, hi⟩
theorem elP.keep {A : Nat → Prop} {w w' : World} (hs : w.heap.size ≤ w'.heap.size) (hk : ∀ j, j < w.heap.size → A j → w'.heap[j]? = w.heap[j]?) : ∀ c vs, elP A w c vs → elP A w' c vs := by
  rintro c vs ⟨p, m, q, e, hb, hi⟩
  exact ⟨p, m, q, e, hb.keep hs hk, hi⟩
theorem RD.keep {A : Nat → Prop} {w w' : World} {D : DskS} {q : Quad} (h : RD A w D q) (hs : w.heap.size ≤ w'.heap.size) (hk : ∀ j, j < w.heap.size → A j → w'.heap[j]? = w.heap[j]?) : RD A w' D q :=
  ⟨h.safe.keep hs (elC.keep hk) hk, h.loose.keep hs (elC.keep hk) hk, h.seen.keep hs (elT.keep hk) hk, h.plot.keep hs (elP.keep hs hk) hk⟩
theorem BA.mono {A A' : Nat → Prop} {w : World} {p : Option Addr} {m q : Nat} {b : List UInt8} (h : BA A w p m q b) (hA : ∀ j, j < w.heap.size → A j → A' j) : BA A' w p m q b :=
  ⟨h.1, fun hm => by
    obtain ⟨x, hp, ha, hb⟩ := h.2 hm
    exact ⟨x, hp, hA _ hb ha, hb⟩⟩
theorem RD.mono {A A' : Nat → Prop} {w : World} {D : DskS} {q : Quad} (h : RD A w D q) (hA : ∀ j, j < w.heap.size → A j → A' j) : RD A' w D q :=
  ⟨h.safe.mono (fun _ _ ⟨p, m, q, e, hb, hi⟩ => ⟨p, m, q, e, hb.mono hA, hi⟩) hA, h.loose.mono (fun _ _ ⟨p, m, q, e, hb, hi⟩ => ⟨p, m, q, e, hb.mono hA, hi⟩) hA, h.seen.mono (fun _ _ ⟨p, m, q, e, hb, hi⟩ => ⟨p, m, q, e, hb.mono hA, hi⟩) hA, h.plot.mono (fun _ _ ⟨p, m, q, e, hb, hi⟩ => ⟨p, m, q, e, hb.mono hA, hi⟩) hA⟩
theorem RD.below {A : Nat → Prop} {w w' : World} {D : DskS} {q : Quad} (h : RD A w D q) (hb : Below w.heap.size w w') : RD A w' D q := h.keep hb.size fun j hj _ => hb.block j hj
theorem RD.kp {A F : Nat → Prop} {w w' : World} {D : DskS} {q : Quad} (h : RD A w D q) (k : Kp F w w') (hA : ∀ j, A j → ¬ F j) : RD A w' D q := h.keep k.size fun j hj ha => k.block j hj (hA j ha)
/-- Of structs that hold bytes in blocks of bytes nothing is lost where another row of structs is written. -/
theorem elC.grown {A : Nat → Prop} {w w' : World} {r : Option Nat} (g : w.grownBy w' r) (hr : ∀ j cur f, r = some j → w.heap[j]? ≠ some (.cells cur 5 f)) : ∀ c vs, elC A w c vs → elC A w' c vs := by
  rintro c vs ⟨p, m, q, e, hb, hi⟩
  exact ⟨p, m, q, e, hb.grown g hr, hi⟩
theorem elT.grown {A : Nat → Prop} {w w' : World} {r : Option Nat} (g : w.grownBy w' r) (hr : ∀ j cur f, r = some j → w.heap[j]? ≠ some (.cells cur 5 f)) : ∀ c vs, elT A w c vs → elT A w' c vs := by
  rintro c vs ⟨p, m, q, e, hb, hi⟩
  exact ⟨p, m, q, e, hb.grown g hr, hi⟩

end Go.Proofs.Ytnmmopneacdgfaa

/-
  Plain mathematics of layer 10: what a cell is, and what each call makes of it; how the reference's cell lies in memory ('RC'). No condition; nothing of the program.
-/
namespace Go.Proofs.Ytnmmopneacdgfaa
open Go.RowKit

/-- A cell: the power, its sectors, how many were written. -/
structure CelS where
  p : PowS
  l : List (List UInt8)
  writes : Nat
def z1k : List UInt8 := List.replicate 1024 0
/-- Bytes as a sector. -/
def fitK (b : List UInt8) : List UInt8 := (b ++ z1k).take 1024
def CelS.new (p : PowS) : CelS := ⟨p, [z1k, z1k, z1k, z1k], 0⟩
def CelS.read (C : CelS) (at_ : Int) : List UInt8 × Int := if at_ < 0 ∨ 3 < at_ then ([], 2) else if C.p.down then ([], 5) else (C.l.getD at_.toNat [], 0)
def CelS.wrote (C : CelS) (at_ : Int) (b : List UInt8) : CelS := if C.p.does then ⟨C.p.next, C.l.set at_.toNat (fitK b), C.writes + 1⟩ else { C with p := C.p.next }
def CelS.write (C : CelS) (at_ : Int) (b : List UInt8) : CelS × Int := if at_ < 0 ∨ 3 < at_ then (C, 2) else if 1024 < b.length then (C, 17) else (C.wrote at_ b, if C.p.ok then 0 else 5)
/-- What is too much. -/
structure CelS.fit (C : CelS) (m : Nat) : Prop where
  p : C.p.fit m
  l : C.l.length = 4
  s : ∀ x ∈ C.l, x.length = 1024
  writes : C.writes ≤ m
theorem CelS.fit.mono {C : CelS} {m n : Nat} (h : C.fit m) (hm : m ≤ n) : C.fit n := ⟨PowS.fit_mono h.p hm, h.l, h.s, by have := h.writes; omega⟩
theorem CelS.fit.power {C : CelS} {m : Nat} (h : C.fit m) {P : PowS} (hP : P.fit m) : ({ C with p := P } : CelS).fit m := ⟨hP, h.l, h.s, h.writes⟩
/-- Bytes as an element of a slice. -/
def elB (A : Nat → Prop) (w : World) (b : List UInt8) (vs : List Value) : Prop := ∃ p m q, vs = [.slice p m q] ∧ B5 A w p m q b
theorem elB.keep {A : Nat → Prop} {w w' : World} (hk : ∀ j, j < w.heap.size → A j → w'.heap[j]? = w.heap[j]?) : ∀ c vs, elB A w c vs → elB A w' c vs := by
  rintro c vs ⟨p, m, q, e, hb⟩
  exact ⟨p, m, q, e, hb.keep fun j _ _ ha hh => hk j (Array.getElem?_eq_some_iff.1 hh).1 ha⟩
theorem elB.grown {A : Nat → Prop} {w w' : World} {r : Option Nat} (g : w.grownBy w' r) (hr : ∀ j cur f, r = some j → w.heap[j]? ≠ some (.cells cur 5 f)) : ∀ c vs, elB A w c vs → elB A w' c vs := by
  rintro c vs ⟨p, m, q, e, hb⟩
  exact ⟨p, m, q, e, hb.grown g hr⟩
/-- The reference's slice. -/
structure Tri where
  la : Option Addr
  ln : Nat
  lc : Nat
/-- The reference's cell as cells, as a value. -/
def cc (C : CelS) (q : Tri) : List Value := [.int .i64 (C.p.steps : Int), .int .i64 C.p.fuse, .bool C.p.done, .bool C.p.down, .slice q.la q.ln q.lc, .int .i64 (C.writes : Int)]
def cv (C : CelS) (q : Tri) : Value := .agg (cc C q).toArray
/-- The reference's cell in memory. -/
def RC (A : Nat → Prop) (w : World) (C : CelS) (q : Tri) : Prop := Sl (elB A) 1 A w q.la q.ln q.lc C.l
theorem RC.keep {A : Nat → Prop} {w w' : World} {C : CelS} {q : Tri} (h : RC A w C q) (hs : w.heap.size ≤ w'.heap.size) (hk : ∀ j, j < w.heap.size → A j → w'.heap[j]? = w.heap[j]?) : RC A w' C q := Sl.keep h hs (elB.keep hk) hk
theorem RC.below {A : Nat → Prop} {w w' : World} {C : CelS} {q : Tri} (h : RC A w C q) (hb : Below w.heap.size w w') : RC A w' C q := h.keep hb.size fun j hj _ => hb.block j hj
theorem RC.kp {A F : Nat → Prop} {w w' : World} {C : CelS} {q : Tri} (h : RC A w C q) (k : Kp F w w') (hA : ∀ j, A j → ¬ F j) : RC A w' C q := h.keep k.size fun j hj ha => k.block j hj (hA j ha)
theorem RC.mono {A A' : Nat → Prop} {w : World} {C : CelS} {q : Tri} (h : RC A w C q) (hA : ∀ j, j < w.heap.size → A j → A' j) : RC A' w C q := Sl.mono h (fun _ _ ⟨p, m, q, e, hb⟩ => ⟨p, m, q, e, hb.mono hA⟩) hA
/-- The sector k. -/
theorem Sl.bytes {A : Nat → Prop} {w : World} {a : Option Addr} {n c : Nat} {l : List (List UInt8)} (h : Sl (elB A) 1 A w a n c l) {s : Nat} {x : List UInt8} (hx : l[s]? = some x) : ∃ b o p m q, a = some ⟨b, o, none⟩ ∧ b < w.heap.size ∧ w.cell? ⟨b, o + s, none⟩ = some (.slice p m q) ∧ B5 A w p m q x := by
  obtain ⟨b, o, vs, ha, hlt, hrg, hl, p, m, q, rfl, hb⟩ := h.at hx
  exact ⟨b, o, p, m, q, ha, hlt, by have := hrg 0 _ rfl; rwa [Nat.add_zero, Nat.mul_one] at this, hb⟩
end Go.Proofs.Ytnmmopneacdgfaa

/-
  Regions that draw their order, with calls and new variables in them: a call whose answer is known, and which only makes memory, may be taken first, if all that follows is shown in every world that has grown. No condition; no statement of the seat is proved here.
-/
namespace Go.Proofs.Ytnmmopneacdgfaa
open Go.RowKit


/-- The world has only grown. -/
def Grows (w w' : World) : Prop := Below w.heap.size w w'
theorem Grows.refl (w : World) : Grows w w := Below.refl _ _
theorem Grows.trans {a b c : World} (h : Grows a b) (k : Grows b c) : Grows a c := Below.trans h (Below.mono k (Below.size h))

/-- What another operation does to a state in which this one's answer lies already, it does to the state in which it does not lie yet. -/
theorem other_first {P : Program} {ops : Array Oper} {Q : Exit → Act → World → Prop} {j : Nat} {oi oj : Oper} {v : Value} (hj : ops[j]? = some oj) (hap : oi.apart ops oj = true) (hsi : ∀ cs b, oi.op ≠ .select cs b) (hsj : ∀ cs b, oj.op ≠ .select cs b)
    (hQ : ∀ c a w, Q (.panic c) (a.put oi.dst v) w → Q (.panic c) a w) {K : Act → World → Prop} {a : Act} {w : World} (h : wpOp P ops Q j K (a.put oi.dst v) w) :
    wpOp P ops Q j (fun a' w' => (execOp a'.eval oi = execOp a.eval oi ∧ Region.wanted oi (yielded ops a'.tmps) = Region.wanted oi (yielded ops a.tmps)) ∧ K (a'.put oi.dst v) w') a w := by
  obtain ⟨h1, h2, h3⟩ := Oper.apart_spec hap
  have kp : ∀ (b : Act), (execOp b.eval oi = execOp a.eval oi ∧ Region.wanted oi (yielded ops b.tmps) = Region.wanted oi (yielded ops a.tmps)) → ∀ u, execOp (b.put oj.dst u).eval oi = execOp a.eval oi ∧ Region.wanted oi (yielded ops (b.put oj.dst u).tmps) = Region.wanted oi (yielded ops a.tmps) :=
    fun b hb u => ⟨(execOp_put oi hsi b oj.dst u h3).trans hb.1, (wanted_put oi b oj.dst u h3).trans hb.2⟩
  have k0 := kp a ⟨rfl, rfl⟩
  have sw : ∀ (b : Act) u, (b.put oj.dst u).put oi.dst v = (b.put oi.dst v).put oj.dst u := fun b u => (Act.put_comm b v u h2).symm
  have e1 := execOp_put oj hsj a oi.dst v h1
  have e2 := wanted_put oj a oi.dst v h1
  revert h
  unfold wpOp
  simp only [hj, e2]
  by_cases hw : Region.wanted oj (yielded ops a.tmps) = true
  · simp only [hw, if_true]
    rintro (h | ⟨ha, hl⟩)
    · left
      revert h
      unfold Oper.wp
      rw [e1]
      cases (execOp a.eval oj).run P w with
      | halt x w' =>
        intro h
        cases x
        case panic u => exact hQ _ _ _ h
        all_goals exact h
      | ok n w' =>
        intro h
        cases n with
        | value u => exact ⟨k0 u, by rw [sw]; exact h⟩
        | skip => exact ⟨k0 _, by rw [sw]; exact h⟩
        | defer d => exact ⟨kp { a with defers := d :: a.defers } ⟨rfl, rfl⟩ _, by rw [sw, ← Act.put_defers]; exact h⟩
        | enter f args =>
          refine Calls.mono h fun e w'' he => ?_
          cases e with
          | returned u => exact ⟨k0 u, by rw [sw]; exact he⟩
          | panicked c => exact hQ _ _ _ he
          | outgrown => exact he
        | row r args => exact Rows.mono h fun u w'' he => ⟨k0 u, by rw [sw]; exact he⟩
        | _ => exact h
    · right
      refine ⟨?_, hl⟩
      unfold Oper.asks at *
      rw [e1] at ha
      exact ha
  · rw [Bool.not_eq_true] at hw
    simp only [hw, Bool.false_eq_true, if_false]
    intro h
    exact ⟨k0 _, by rw [sw]; exact h⟩


/-- In every world that meets S the operation answers v, and the world has only grown. -/
def Ans (P : Program) (ops : Array Oper) (S : World → Prop) (o : Oper) (v : Value) (a : Act) : Prop :=
  (Region.wanted o (yielded ops a.tmps) = true ∧ ∀ w, S w → (execOp a.eval o).run P w = .ok (.value v) w ∨ ∃ f args, (execOp a.eval o).run P w = .ok (.enter f args) w ∧ Calls P f args w fun e w' => e = .returned v ∧ Grows w w' ∧ S w') ∨
  (Region.wanted o (yielded ops a.tmps) = false ∧ v = undef)
theorem Ans.same {P : Program} {ops : Array Oper} {S : World → Prop} {o : Oper} {v : Value} {a b : Act} (h : Ans P ops S o v a) (he : execOp b.eval o = execOp a.eval o ∧ Region.wanted o (yielded ops b.tmps) = Region.wanted o (yielded ops a.tmps)) : Ans P ops S o v b := by
  unfold Ans at *
  rw [he.1, he.2]
  exact h
theorem Ans.op {P : Program} {ops : Array Oper} {Q : Exit → Act → World → Prop} {S : World → Prop} {i : Nat} {o : Oper} {v : Value} {a : Act} (hi : ops[i]? = some o) (h : Ans P ops S o v a) {K : Act → World → Prop} {w : World} (hS : S w) (k : ∀ w', Grows w w' → S w' → K (a.put o.dst v) w') : wpOp P ops Q i K a w := by
  unfold wpOp
  simp only [hi]
  rcases h with ⟨hw, hv⟩ | ⟨hw, rfl⟩
  · simp only [hw, if_true]
    left
    unfold Oper.wp
    rcases hv w hS with e | ⟨f, args, e, hc⟩
    · rw [e]
      exact k w (Grows.refl w) hS
    · rw [e, Oper.upon_enter]
      refine hc.mono ?_
      rintro e w' ⟨rfl, hg, hs⟩
      exact k w' hg hs
  · simp only [hw, Bool.false_eq_true, if_false]
    exact k w (Grows.refl w) hS

/-- Whatever order is picked from here on, in whatever world has grown of this one. -/
def wpAnyG (P : Program) (md : Region.Mode) (ops : Array Oper) (Q : Exit → Act → World → Prop) (S : World → Prop) : Nat → Array Bool → Act → World → Prop
  | 0, listed, a, w => Region.ready md ops listed = [] ∧ ∀ w', Grows w w' → S w' → Q .normal a w'
  | fuel + 1, listed, a, w => ∀ w', Grows w w' → S w' → (Region.ready md ops listed = [] → Q .normal a w') ∧
      ∀ i ∈ Region.ready md ops listed, wpOp P ops Q i (fun a' w'' => S w'' ∧ wpAnyG P md ops Q S fuel (listed.setIfInBounds i true) a' w'') a w'
theorem wpAnyG.grow {P : Program} {ops : Array Oper} {Q : Exit → Act → World → Prop} {md : Region.Mode} {S : World → Prop} {fuel : Nat} {listed : Array Bool} {a : Act} {w w1 : World} (h : wpAnyG P md ops Q S fuel listed a w) (hg : Grows w w1) : wpAnyG P md ops Q S fuel listed a w1 := by
  cases fuel with
  | zero => exact ⟨h.1, fun w' hw hs => h.2 w' (hg.trans hw) hs⟩
  | succ fuel => exact fun w' hw hs => h w' (hg.trans hw) hs
theorem wpAnyG.any {P : Program} {ops : Array Oper} {Q : Exit → Act → World → Prop} {md : Region.Mode} {S : World → Prop} : ∀ (fuel : Nat) (listed : Array Bool) (a : Act) (w : World), S w → wpAnyG P md ops Q S fuel listed a w → wpAny P md ops Q fuel listed a w
  | 0, _, _, w, hS, h => ⟨h.1, h.2 w (Grows.refl w) hS⟩
  | fuel + 1, _, _, w, hS, h => by
    obtain ⟨h1, h2⟩ := h w (Grows.refl w) hS
    exact ⟨h1, fun i hi => wpOp_mono (fun a' w' hh => wpAnyG.any fuel _ a' w' hh.1 hh.2) (h2 i hi)⟩

theorem firstG {P : Program} {ops : Array Oper} {Q : Exit → Act → World → Prop} {md : Region.Mode} {S : World → Prop} {i : Nat} {oi : Oper} {v : Value} (hi : ops[i]? = some oi) (hsel : ∀ (j : Nat) (o : Oper) cs b, ops[j]? = some o → o.op ≠ .select cs b) (hQ : ∀ c a w, Q (.panic c) (a.put oi.dst v) w → Q (.panic c) a w) :
    ∀ (fuel : Nat) (listed : Array Bool) (a : Act) (w : World),
      (∀ j oj, ops[j]? = some oj → j ≠ i → listed.getD j true = false → (∀ e ∈ oj.after, Region.binds md e = true → e.on ≠ i) → oi.apart ops oj = true) →
      i ∈ Region.ready md ops listed → Ans P ops S oi v a → wpAnyG P md ops Q S fuel (listed.setIfInBounds i true) (a.put oi.dst v) w → wpAnyG P md ops Q S (fuel + 1) listed a w := by
  intro fuel
  induction fuel with
  | zero =>
    intro listed a w _ hr hy H w' hg hS
    refine ⟨fun h => (by rw [h] at hr; cases hr), fun j hj => ?_⟩
    by_cases e : j = i
    · rw [e]
      exact hy.op hi hS fun w'' hg' hs => ⟨hs, H.1, fun w3 h3 hs3 => H.2 w3 (hg.trans (hg'.trans h3)) hs3⟩
    · have := ready_mono hj e
      rw [H.1] at this
      cases this
  | succ fuel ih =>
    intro listed a w hfree hr hy H w' hg hS
    refine ⟨fun h => (by rw [h] at hr; cases hr), fun j hj => ?_⟩
    by_cases e : j = i
    · rw [e]
      exact hy.op hi hS fun w'' hg' hs => ⟨hs, wpAnyG.grow H (hg.trans hg')⟩
    · obtain ⟨hun, oj, hoj, hall⟩ := mem_ready.1 hj
      have hno : ∀ e ∈ oj.after, Region.binds md e = true → e.on ≠ i := fun x hx hb hxi => by
        have h1 := hall x hx hb
        have h0 := (mem_ready.1 hr).1
        rw [hxi] at h1
        rcases Nat.lt_or_ge i listed.size with hl | hl
        · simp [hl] at h0 h1
          rw [h0] at h1
          cases h1
        · simp [Array.getElem?_eq_none hl] at h1
      have hk := other_first hoj (hfree j oj hoj e hun hno) (fun cs b => hsel i oi cs b hi) (fun cs b => hsel j oj cs b hoj) hQ ((H w' hg hS).2 j (ready_mono hj e))
      refine wpOp_mono (fun a' w'' hh => ⟨hh.2.1, ih (listed.setIfInBounds j true) a' w'' ?_ (ready_mono hr (Ne.symm e)) (hy.same hh.1) ?_⟩) hk
      · intro k ok hk hki hun' hno'
        refine hfree k ok hk hki ?_ hno'
        by_cases hjk : j = k
        · rw [← hjk]; exact hun
        · rw [getD_set_ne true hjk] at hun'; exact hun'
      · rw [Array.setIfInBounds_comm _ _ e]
        exact hh.2.2

/-- Take number i first. -/
theorem takeG {P : Program} {ops : Array Oper} {Q : Exit → Act → World → Prop} {md : Region.Mode} {S : World → Prop} (i : Nat) (d : Option Tmp) (v : Value) {oi : Oper} {fuel : Nat} {listed : Array Bool} {a : Act} {w : World} (hi : ops[i]? = some oi) (hd : oi.dst = d)
    (hs : Region.noSelect ops = true) (hf : Region.free md ops listed i = true) (hr : (Region.ready md ops listed).contains i = true)
    (hQ : ∀ c a w, Q (.panic c) (a.put d v) w → Q (.panic c) a w) (hy : Ans P ops S oi v a)
    (h : wpAnyG P md ops Q S fuel (listed.setIfInBounds i true) (a.put d v) w) : wpAnyG P md ops Q S (fuel + 1) listed a w := by
  subst hd
  exact firstG hi (Region.noSelect_spec hs) hQ fuel listed a w (Region.free_spec hi hf) (by simpa using hr) hy h
/-- What only reckons. -/
theorem ans_plain {P : Program} {ops : Array Oper} {S : World → Prop} {oi : Oper} {v : Value} {a : Act} (hw : Region.wanted oi (yielded ops a.tmps) = true) (h : ∀ w, S w → (execOp a.eval oi).run P w = .ok (.value v) w) : Ans P ops S oi v a :=
  Or.inl ⟨hw, fun w hS => Or.inl (h w hS)⟩
/-- A call. -/
theorem ans_call {P : Program} {ops : Array Oper} {S : World → Prop} (f : FuncId) (args : Array Operand) (tys : Array TypeId) (vs : Array Value) {oi : Oper} {v : Value} {a : Act} (ho : oi.op = .call { callee := .value (.func f), args := args, argTypes := tys }) (hw : Region.wanted oi (yielded ops a.tmps) = true) (hv : (args.toList.map a.eval).toArray = vs)
    (hc : ∀ vs w, (callFunc f vs).run P w = .ok (.enter f vs) w) (h : ∀ w, S w → Calls P f vs w fun e w' => e = .returned v ∧ Grows w w' ∧ S w') : Ans P ops S oi v a := by
  have hv' : args.map a.eval = vs := by rw [← hv]; apply Array.toList_inj.1; rw [Array.toList_map]
  subst hv'
  refine Or.inl ⟨hw, fun w hS => Or.inr ⟨f, args.map a.eval, ?_, h w hS⟩⟩
  simp [execOp, ho, resolve, invoke, Act.eval, Deferred.ofValue, hc]
/-- The one that may come up. -/
theorem oneG {P : Program} {ops : Array Oper} {Q : Exit → Act → World → Prop} {md : Region.Mode} {S : World → Prop} (i : Nat) {fuel : Nat} {listed : Array Bool} {a : Act} {w : World} (hr : Region.ready md ops listed = [i])
    (h : ∀ w', Grows w w' → S w' → wpOp P ops Q i (fun a' w'' => S w'' ∧ wpAnyG P md ops Q S fuel (listed.setIfInBounds i true) a' w'') a w') : wpAnyG P md ops Q S (fuel + 1) listed a w :=
  fun w' hg hS => ⟨fun h0 => (by rw [h0] at hr; cases hr), fun j hj => by
    rw [hr] at hj
    rw [List.mem_singleton.1 hj]
    exact h w' hg hS⟩
theorem doneG {P : Program} {ops : Array Oper} {Q : Exit → Act → World → Prop} {md : Region.Mode} {S : World → Prop} {fuel : Nat} {listed : Array Bool} {a : Act} {w : World} (hr : Region.ready md ops listed = []) (h : ∀ w', Grows w w' → S w' → Q .normal a w') : wpAnyG P md ops Q S fuel listed a w := by
  cases fuel with
  | zero => exact ⟨hr, h⟩
  | succ fuel => exact fun w' hg hS => ⟨fun _ => h w' hg hS, fun j hj => by rw [hr] at hj; cases hj⟩
/-- The beginning. -/
theorem regionG {P : Program} {ops : Array Oper} {Q : Exit → Act → World → Prop} {S : World → Prop} {id : Nat} {a : Act} {w : World} (hm : P.follows .mixedOrders = true) (hS : S w.drew) (h : wpAnyG P .any ops Q S ops.size (Array.replicate ops.size false) a w.drew) : (Code.region id ops true).wp P Q a w :=
  wp_region_any hm (wpAnyG.any _ _ _ _ hS h)

/-- An operation that makes a variable. -/
def Makes (P : Program) (ops : Array Oper) (i : Nat) (d : Tmp) (cells : Array Value) (t : TypeId) : Prop :=
  ∃ o, ops[i]? = some o ∧ o.dst = some d ∧ o.guard = none ∧ ∀ (ρ : Operand → Value) (w : World), (execOp ρ o).run P w = .ok (.value (.pointer (some ⟨w.heap.size, 0, none⟩))) (w.alloc (.cells cells t))
theorem Makes.op {P : Program} {ops : Array Oper} {Q : Exit → Act → World → Prop} {i : Nat} {d : Tmp} {cells : Array Value} {t : TypeId} (h : Makes P ops i d cells t) {K : Act → World → Prop} {a : Act} {w : World} (k : K (a.put (some d) (.pointer (some ⟨w.heap.size, 0, none⟩))) (w.alloc (.cells cells t))) : wpOp P ops Q i K a w := by
  obtain ⟨o, hi, hd, hg, hx⟩ := h
  unfold wpOp
  simp only [hi]
  rw [if_pos (by simp [Region.wanted, hg])]
  left
  unfold Oper.wp
  rw [hx, Oper.upon_value, hd]
  exact k
/-- A call that only makes memory, in whatever world has grown of W. -/
theorem ans_fn {ops : Array Oper} {W : World} {oi : Oper} {a : Act} (f : FuncId) (args : Array Operand) (tys : Array TypeId) (vs : Array Value) {v : Value} (ho : oi.op = .call { callee := .value (.func f), args := args, argTypes := tys }) (hw : Region.wanted oi (yielded ops a.tmps) = true) (hv : (args.toList.map a.eval).toArray = vs)
    (hc : ∀ vs w, (callFunc f vs).run Try.prog w = .ok (.enter f vs) w) (h : ∀ w, Grows W w → Calls Try.prog f vs w fun e w' => e = .returned v ∧ Below w.heap.size w w') : Ans Try.prog ops (Grows W) oi v a :=
  ans_call f args tys vs ho hw hv hc fun w hg => (h w hg).mono fun _ _ h2 => ⟨h2.1, h2.2, Grows.trans hg h2.2⟩
/-- A call whose answer lies in new memory: the one that may come up. -/
theorem callG {ops : Array Oper} {Q : Exit → Act → World → Prop} {md : Region.Mode} {S : World → Prop} (i : Nat) (d : Option Tmp) (f : FuncId) (args : Array Operand) (tys : Array TypeId) (vs : Array Value) {oi : Oper} {fuel : Nat} {listed : Array Bool} {a : Act} {w : World} (hi : ops[i]? = some oi) (hd : oi.dst = d)
    (ho : oi.op = .call { callee := .value (.func f), args := args, argTypes := tys }) (hw : Region.wanted oi (yielded ops a.tmps) = true) (hv : (args.toList.map a.eval).toArray = vs) (hr : Region.ready md ops listed = [i]) (hc : ∀ vs w, (callFunc f vs).run Try.prog w = .ok (.enter f vs) w)
    (h : ∀ w', Grows w w' → S w' → Calls Try.prog f vs w' fun e w'' => ∃ v, e = .returned v ∧ S w'' ∧ wpAnyG Try.prog md ops Q S fuel (listed.setIfInBounds i true) (a.put d v) w'') : wpAnyG Try.prog md ops Q S (fuel + 1) listed a w := by
  subst hd
  have hv' : args.map a.eval = vs := by rw [← hv]; apply Array.toList_inj.1; rw [Array.toList_map]
  subst hv'
  refine oneG i hr fun w' hg hS => ?_
  unfold wpOp
  simp only [hi]
  rw [if_pos hw]
  left
  unfold Oper.wp
  have hx : (execOp a.eval oi).run Try.prog w' = .ok (.enter f (args.map a.eval)) w' := by simp [execOp, ho, resolve, invoke, Act.eval, Deferred.ofValue, hc]
  rw [hx, Oper.upon_enter]
  refine (h w' hg hS).mono ?_
  rintro e w'' ⟨v, rfl, hs, hh⟩
  exact ⟨hs, hh⟩

end Go.Proofs.Ytnmmopneacdgfaa

/-
  Memory of an object: what was new, or was there ('Next'); what was not written stays ('BA.after'). No condition; no statement of the seat is proved here.
-/
namespace Go.Proofs.Ytnmmopneacdgfaa
open Go.RowKit

/-- What was new, or was there. -/
def Next (w : World) (P P' : Nat → Prop) : Prop := ∀ j, P' j → P j ∨ w.heap.size ≤ j
theorem Next.of {w w1 : World} {P P' : Nat → Prop} (h : Next w1 P P') (hs : w.heap.size ≤ w1.heap.size) : Next w P P' := fun j hj => (h j hj).imp id fun h => Nat.le_trans hs h
/-- What was not written stays, and is not written from then on. -/
theorem BA.after {F F' : Nat → Prop} {w w' : World} {p : Option Addr} {m q : Nat} {b : List UInt8} (h : BA (fun j => ¬ F j) w p m q b) (k : Kp F w w') (n : Next w F F') : BA (fun j => ¬ F' j) w' p m q b := by
  have h1 : BA (fun j => ¬ F j ∧ j < w.heap.size) w p m q b := h.mono fun j hj ha => ⟨ha, hj⟩
  refine (h1.keep k.size fun j hj ha => k.block j hj ha.1).mono fun j _ ha hF => ?_
  rcases n j hF with h | h
  · exact ha.1 h
  · have := ha.2
    omega
theorem BA.grow {A : Nat → Prop} {w w' : World} {p : Option Addr} {m q : Nat} {b : List UInt8} (h : BA A w p m q b) (k : Below w.heap.size w w') : BA A w' p m q b := h.keep k.size fun j hj _ => k.block j hj

end Go.Proofs.Ytnmmopneacdgfaa
