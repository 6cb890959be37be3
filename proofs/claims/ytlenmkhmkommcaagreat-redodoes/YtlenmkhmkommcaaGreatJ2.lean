/-
  5 texts in one. No statement of the seat is proved here.
-/
import Derived.Test.YtlenmkhmkommcaaGreatJ1
import Derived.Deep.MidRow
import Derived.Deep.Matrix
import Derived.Deep.CutBlock
/-
  Rows of slices of bytes that a call made itself ('OwnV'), and the laws on append and make over them. No condition; no statement of the seat is proved here.
-/
namespace Go.Proofs.YtlenmkhmkommcaaGreat
open Go.RowKit

/-- The value v is a slice of the values vs (slices of bytes), in memory of the call's own from block 'base' on. -/
def OwnV (w : World) (base : Nat) (v : Value) (vs : List Value) : Prop := w.ownsRow base 26 1 v vs.length vs

theorem OwnV.below {w w' : World} {base B : Nat} {v : Value} {vs : List Value} (h : OwnV w base v vs) (hb : Below B w w') (hB : w.heap.size ≤ B) : OwnV w' base v vs := by
  obtain ⟨h1, h2⟩ := h
  refine ⟨h1, ?_⟩
  rcases h2 with h2 | ⟨g, cap, cur, hv, hg, hh, r⟩
  · exact Or.inl h2
  · refine Or.inr ⟨g, cap, cur, hv, hg, ?_, r⟩
    have hlt : g < w.heap.size := by
      by_cases e : g < w.heap.size
      · exact e
      · rw [Array.getElem?_eq_none (by omega)] at hh; simp at hh
    rw [hb.block g (by omega)]
    exact hh
theorem OwnV.size {w : World} {base : Nat} {v : Value} {vs : List Value} (h : OwnV w base v vs) : ∀ k, v.ownBlock = some k → base ≤ k := fun k hk => (World.ownsRow.lt h k hk).1
theorem OwnV.lt {w : World} {base : Nat} {v : Value} {vs : List Value} (h : OwnV w base v vs) : ∀ k, v.ownBlock = some k → k < w.heap.size := fun k hk => (World.ownsRow.lt h k hk).2

/-- What slices a slice of slices has. -/
theorem Bss.vals {w : World} {a : Option Addr} {n c : Nat} {ls : List (List UInt8)} (h : Bss w a n c ls) :
    ∃ vs : List Value, vs.length = n ∧ (∀ i, i < n → ∃ b o, a = some ⟨b, o, none⟩ ∧ w.cell? ⟨b, o + i, none⟩ = vs[i]?) ∧ ∀ i, i < n → ∃ p m q, vs[i]? = some (.slice p m q) ∧ Bs w p m q (ls.getD i []) := by
  have hex : ∀ i, i < n → ∃ v : Value, ∃ b o p m q, a = some ⟨b, o, none⟩ ∧ w.cell? ⟨b, o + i, none⟩ = some v ∧ v = .slice p m q ∧ Bs w p m q (ls.getD i []) := fun i hi => by
    obtain ⟨b, o, p, m, q, ha, hc, hs⟩ := h.2.2.2 i hi
    exact ⟨_, b, o, p, m, q, ha, hc, rfl, hs⟩
  obtain ⟨f, hf⟩ := Deep.choose_lt hex
  refine ⟨(List.range n).map f, by simp, fun i hi => ?_, fun i hi => ?_⟩
  · obtain ⟨b, o, p, m, q, ha, hc, _, _⟩ := hf i hi
    exact ⟨b, o, ha, by rw [hc]; simp [hi]⟩
  · obtain ⟨b, o, p, m, q, _, _, hv, hs⟩ := hf i hi
    exact ⟨p, m, q, by rw [← hv]; simp [hi], hs⟩

end Go.Proofs.YtlenmkhmkommcaaGreat

/-
  Plain mathematics of layer 8: what power is, and what each call makes of it; and what a call leaves that writes some blocks alone ('Kp'). No condition; nothing of the program.
-/
namespace Go.Proofs.YtlenmkhmkommcaaGreat
open Go.RowKit

/-- Of all that lay in w, the blocks of F alone may be others in w'. -/
structure Kp (F : Nat → Prop) (w w' : World) : Prop where
  os : w'.os = w.os
  tape : w'.tape = w.tape
  output : w'.output = w.output
  size : w.heap.size ≤ w'.heap.size
  block : ∀ k, k < w.heap.size → ¬ F k → w'.heap[k]? = w.heap[k]?

theorem Kp.refl (F : Nat → Prop) (w : World) : Kp F w w := ⟨rfl, rfl, rfl, Nat.le_refl _, fun _ _ _ => rfl⟩
theorem Kp.trans {F : Nat → Prop} {a b c : World} (h : Kp F a b) (k : Kp F b c) : Kp F a c :=
  ⟨k.os.trans h.os, k.tape.trans h.tape, k.output.trans h.output, Nat.le_trans h.size k.size, fun i hi hn => (k.block i (Nat.lt_of_lt_of_le hi h.size) hn).trans (h.block i hi hn)⟩
theorem Kp.mono {F G : Nat → Prop} {w w' : World} (h : Kp F w w') (hG : ∀ k, k < w.heap.size → F k → G k) : Kp G w w' :=
  ⟨h.os, h.tape, h.output, h.size, fun k hk hn => h.block k hk (fun hf => hn (hG k hk hf))⟩
theorem Kp.of_below {F : Nat → Prop} {w w' : World} (h : Below w.heap.size w w') : Kp F w w' := ⟨h.os, h.tape, h.output, h.size, fun k hk _ => h.block k hk⟩
theorem Kp.below {F : Nat → Prop} {w w' : World} (h : Kp F w w') {B : Nat} (hB : B ≤ w.heap.size) (hF : ∀ k, k < B → ¬ F k) : Below B w w' := ⟨h.os, h.tape, h.output, h.size, fun k hk => h.block k (by omega) (hF k hk)⟩
theorem Kp.of_grown {w w' : World} {r : Nat} (h : w.grownBy w' (some r)) : Kp (fun k => k = r) w w' := ⟨h.os, h.tape, h.output, h.size, fun k hk hn => h.block k hk (fun e => hn (Option.some.inj e))⟩
theorem Kp.grown {w w' : World} {r : Nat} (h : Kp (fun k => k = r) w w') : w.grownBy w' (some r) := ⟨h.os, h.tape, h.output, h.size, fun k hk hn => h.block k hk (fun e => hn (by rw [e]))⟩
theorem Kp.alloc {F : Nat → Prop} {a w : World} (h : Kp F a w) (o : Obj) : Kp F a (w.alloc o) := h.trans (Kp.of_below (below_alloc w o))
theorem Kp.drew {F : Nat → Prop} {a w : World} (h : Kp F a w) (n : Nat) : Kp F a (w.drewN n) := h.trans (Kp.of_below (below_drewN' w n))
theorem Kp.blk {F : Nat → Prop} {w w' : World} (h : Kp F w w') {g : Nat} {vs : List Value} {t : TypeId} (hb : Blk w g vs t) (hg : ¬ F g) : Blk w' g vs t := by
  unfold Blk
  rw [h.block g hb.lt hg]
  exact hb
theorem Kp.setC {F : Nat → Prop} {w : World} {g : Nat} (hg : F g) (i : Nat) (v : Value) : Kp F w (w.setCell ⟨g, i, none⟩ v) :=
  (Kp.of_grown (but_set w g i v)).mono fun k _ e => by rw [e]; exact hg
/-- What lay in w lies in w' too, but for F: all that lay below B, none of which is F's. -/
theorem below_kp {B : Nat} {F : Nat → Prop} {w w1 w' : World} (h : Below B w w1) (k : Kp F w1 w') (hB : B ≤ w1.heap.size) (hF : ∀ k, k < B → ¬ F k) : Below B w w' := h.trans (k.below hB hF)

/-- Power: how many steps there were; behind how many more it goes (below 0: it does not); is what is atomic done then; has it gone? -/
structure PowS where
  steps : Nat
  fuse : Int
  done : Bool
  down : Bool
def PowS.new : PowS := ⟨0, -1, false, false⟩
def PowS.set (S : PowS) (n : Int) (d : Bool) : PowS := ⟨S.steps, if n < 0 then -1 else n, d, S.down⟩
def PowS.ok (S : PowS) : Bool := !S.down && !decide (S.fuse = 0)
def PowS.does (S : PowS) : Bool := !S.down && (!decide (S.fuse = 0) || S.done)
def PowS.next (S : PowS) : PowS := if S.down then S else if S.fuse < 0 then ⟨S.steps + 1, S.fuse, S.done, false⟩ else ⟨S.steps + 1, S.fuse - 1, S.done, decide (S.fuse = 0)⟩
def PowS.back (S : PowS) : PowS := ⟨S.steps, -1, false, false⟩
/-- Numbers that are numbers of the language, and steps that are not too many. -/
def PowS.fit (S : PowS) (m : Nat) : Prop := S.steps ≤ m ∧ -1 ≤ S.fuse ∧ S.fuse ≤ 9223372036854775807
theorem PowS.fit_new : PowS.new.fit 0 := ⟨Nat.le_refl _, by decide, by decide⟩
theorem PowS.fit_set {S : PowS} {m : Nat} (h : S.fit m) {n : Int} (hn : n ≤ 9223372036854775807) (d : Bool) : (S.set n d).fit m := by
  obtain ⟨h1, h2, h3⟩ := h
  unfold PowS.set PowS.fit
  refine ⟨h1, ?_, ?_⟩
  · dsimp only; split <;> omega
  · dsimp only; split <;> omega
theorem PowS.fit_next {S : PowS} {m : Nat} (h : S.fit m) : S.next.fit (m + 1) := by
  obtain ⟨h1, h2, h3⟩ := h
  unfold PowS.next PowS.fit
  split
  · exact ⟨by omega, h2, h3⟩
  · split
    · exact ⟨by dsimp only; omega, h2, h3⟩
    · exact ⟨by dsimp only; omega, by dsimp only; omega, by dsimp only; omega⟩
theorem PowS.fit_back {S : PowS} {m : Nat} (h : S.fit m) : S.back.fit m := ⟨h.1, by show (-1 : Int) ≤ -1; omega, by show (-1 : Int) ≤ _; omega⟩
theorem PowS.fit_mono {S : PowS} {m n : Nat} (h : S.fit m) (hm : m ≤ n) : S.fit n := ⟨by have := h.1; omega, h.2⟩
/-- As the reference's value. -/
def pv (S : PowS) : Value := .agg #[.int .i64 (S.steps : Int), .int .i64 S.fuse, .bool S.done, .bool S.down]
/-- Its cells. -/
def pc (S : PowS) : List Value := [.int .i64 (S.steps : Int), .int .i64 S.fuse, .bool S.done, .bool S.down]

end Go.Proofs.YtlenmkhmkommcaaGreat

/-
  Slices of structs that hold bytes: what such a slice holds ('Sl'), rows of them that a call made itself ('OwS'), bytes that lie in blocks of bytes ('B5'), how they outlast what is made and written, and append over them. No condition; no statement of the seat is proved here.
-/
namespace Go.Proofs.YtlenmkhmkommcaaGreat
open Go.RowKit

/-- Two lists, element by element. -/
def Rel2 {α β : Type} (R : α → β → Prop) : List α → List β → Prop
  | [], [] => True
  | a :: l, b :: m => R a b ∧ Rel2 R l m
  | [], _ :: _ => False
  | _ :: _, [] => False
theorem Rel2.len {α β : Type} {R : α → β → Prop} : ∀ {l : List α} {m : List β}, Rel2 R l m → l.length = m.length
  | [], [], _ => rfl
  | _ :: _, _ :: _, h => by simp [Rel2.len h.2]
  | [], _ :: _, h => h.elim
  | _ :: _, [], h => h.elim
theorem Rel2.append {α β : Type} {R : α → β → Prop} : ∀ {l : List α} {m : List β} {l' : List α} {m' : List β}, Rel2 R l m → Rel2 R l' m' → Rel2 R (l ++ l') (m ++ m')
  | [], [], _, _, _, h' => h'
  | _ :: _, _ :: _, _, _, h, h' => ⟨h.1, Rel2.append h.2 h'⟩
  | [], _ :: _, _, _, h, _ => h.elim
  | _ :: _, [], _, _, h, _ => h.elim
theorem Rel2.mono {α β : Type} {R R' : α → β → Prop} (hR : ∀ a b, R a b → R' a b) : ∀ {l : List α} {m : List β}, Rel2 R l m → Rel2 R' l m
  | [], [], _ => trivial
  | _ :: _, _ :: _, h => ⟨hR _ _ h.1, Rel2.mono hR h.2⟩
  | [], _ :: _, h => h.elim
  | _ :: _, [], h => h.elim
theorem Rel2.at {α β : Type} {R : α → β → Prop} : ∀ {l : List α} {m : List β}, Rel2 R l m → ∀ {i : Nat} {x : α}, l[i]? = some x → ∃ y, m[i]? = some y ∧ R x y
  | [], [], _, i, x, hx => by simp at hx
  | a :: l, b :: m, h, 0, x, hx => ⟨b, rfl, by simp at hx; subst hx; exact h.1⟩
  | a :: l, b :: m, h, i + 1, x, hx => by simpa using Rel2.at h.2 (by simpa using hx)
  | [], _ :: _, h, _, _, _ => h.elim
  | _ :: _, [], h, _, _, _ => h.elim
theorem Rel2.mem {α β : Type} {R : α → β → Prop} : ∀ {l : List α} {m : List β}, Rel2 R l m → ∀ y ∈ m, ∃ x ∈ l, R x y
  | [], [], _, y, hy => by cases hy
  | a :: l, b :: m, h, y, hy => by
    rcases List.mem_cons.1 hy with rfl | hy
    · exact ⟨a, by simp, h.1⟩
    · obtain ⟨x, hx, hr⟩ := Rel2.mem h.2 y hy
      exact ⟨x, by simp [hx], hr⟩
  | [], _ :: _, h, _, _ => h.elim
  | _ :: _, [], h, _, _ => h.elim
/-- Rows of like lengths, one behind the other. -/
theorem flat_at {sz : Nat} : ∀ {rows : List (List Value)}, (∀ vs ∈ rows, vs.length = sz) → ∀ {i : Nat} {vs : List Value}, rows[i]? = some vs → ∀ j, j < sz → rows.flatten[i * sz + j]? = vs[j]?
  | [], _, i, vs, h, j, hj => by simp at h
  | r :: rows, hl, 0, vs, h, j, hj => by
    have h0 := hl r (by simp)
    simp at h
    subst h
    rw [List.flatten_cons, Nat.zero_mul, Nat.zero_add, List.getElem?_append_left (by omega)]
  | r :: rows, hl, i + 1, vs, h, j, hj => by
    have h0 := hl r (by simp)
    rw [List.flatten_cons, List.getElem?_append_right (by rw [h0, Nat.succ_mul]; omega), show (i + 1) * sz + j - r.length = i * sz + j from by rw [h0, Nat.succ_mul]; omega]
    exact flat_at (fun v hv => hl v (by simp [hv])) (by simpa using h) j hj
theorem flatC_len {sz : Nat} : ∀ {rows : List (List Value)}, (∀ vs ∈ rows, vs.length = sz) → rows.flatten.length = rows.length * sz
  | [], _ => by simp
  | r :: rows, hl => by
    rw [List.flatten_cons, List.length_append, hl r (by simp), flatC_len (fun v hv => hl v (by simp [hv])), List.length_cons, Nat.succ_mul]
    omega

/-- The bytes b in a block of bytes, of those in A. -/
def B5 (A : Nat → Prop) (w : World) (p : Option Addr) (m q : Nat) (b : List UInt8) : Prop :=
  Bs w p m q b ∧ (0 < m → ∃ x cur f, p = some x ∧ A x.block ∧ w.heap[x.block]? = some (.cells cur 5 f))
theorem B5.bs {A : Nat → Prop} {w : World} {p : Option Addr} {m q : Nat} {b : List UInt8} (h : B5 A w p m q b) : Bs w p m q b := h.1
theorem B5.mono {A A' : Nat → Prop} {w : World} {p : Option Addr} {m q : Nat} {b : List UInt8} (h : B5 A w p m q b) (hA : ∀ j, j < w.heap.size → A j → A' j) : B5 A' w p m q b :=
  ⟨h.1, fun hm => by
    obtain ⟨x, cur, f, hp, ha, hb⟩ := h.2 hm
    exact ⟨x, cur, f, hp, hA _ (Array.getElem?_eq_some_iff.1 hb).1 ha, hb⟩⟩
theorem B5.keep {A : Nat → Prop} {w w' : World} {p : Option Addr} {m q : Nat} {b : List UInt8} (h : B5 A w p m q b) (hk : ∀ j cur f, A j → w.heap[j]? = some (.cells cur 5 f) → w'.heap[j]? = w.heap[j]?) : B5 A w' p m q b := by
  obtain ⟨⟨h1, h2, h3, h4, h5⟩, h6⟩ := h
  refine ⟨⟨h1, h2, h3, h4, fun i hi => ?_⟩, fun hm => ?_⟩
  · obtain ⟨x, cur, f, hp, ha, hb⟩ := h6 (by omega)
    obtain ⟨bb, o, hp', hc⟩ := h5 i hi
    refine ⟨bb, o, hp', ?_⟩
    rw [hp] at hp'
    obtain rfl := Option.some.inj hp'
    rw [World.cell?_of_block (w := w) (hk bb cur f ha hb)]
    exact hc
  · obtain ⟨x, cur, f, hp, ha, hb⟩ := h6 hm
    exact ⟨x, cur, f, hp, ha, by rw [hk _ cur f ha hb]; exact hb⟩
theorem B5.below {A : Nat → Prop} {w w' : World} {p : Option Addr} {m q : Nat} {b : List UInt8} (h : B5 A w p m q b) (hb : Below w.heap.size w w') : B5 A w' p m q b :=
  h.keep fun j _ _ _ hh => hb.block j (Array.getElem?_eq_some_iff.1 hh).1
theorem B5.kp {A F : Nat → Prop} {w w' : World} {p : Option Addr} {m q : Nat} {b : List UInt8} (h : B5 A w p m q b) (k : Kp F w w') (hA : ∀ j, A j → ¬ F j) : B5 A w' p m q b :=
  h.keep fun j _ _ ha hh => k.block j (Array.getElem?_eq_some_iff.1 hh).1 (hA j ha)
/-- A block that is not one of bytes was written. -/
theorem B5.grown {A : Nat → Prop} {w w' : World} {r : Option Nat} {p : Option Addr} {m q : Nat} {b : List UInt8} (h : B5 A w p m q b) (g : w.grownBy w' r) (hr : ∀ j cur f, r = some j → w.heap[j]? ≠ some (.cells cur 5 f)) : B5 A w' p m q b :=
  h.keep fun j cur f _ hh => g.block j (Array.getElem?_eq_some_iff.1 hh).1 fun e => hr j cur f e.symm hh
theorem Own.b5 {A : Nat → Prop} {w : World} {base : Nat} {p : Option Addr} {m q : Nat} {l : List UInt8} (h : Own w base (.slice p m q) l) (hA : ∀ j, base ≤ j → j < w.heap.size → A j) : B5 A w p m q l := by
  refine ⟨h.toBs, fun hm => ?_⟩
  rcases h.2 with ⟨e, h0⟩ | ⟨g, cap, cur, e, hb, hg, _⟩
  · simp only [Value.slice.injEq] at e
    omega
  · simp only [Value.slice.injEq] at e
    obtain ⟨rfl, _, _⟩ := e
    exact ⟨_, cur, (0, 0), rfl, hA g hb (Array.getElem?_eq_some_iff.1 hg).1, hg⟩
theorem B5.nil (A : Nat → Prop) (w : World) : B5 A w none 0 0 [] := ⟨Bs.nil w, fun h => by omega⟩

/-- What one struct's cells must be. -/
def Row {α : Type} (el : World → α → List Value → Prop) (sz : Nat) (w : World) (x : α) (vs : List Value) : Prop := vs.length = sz ∧ (∀ u ∈ vs, u.oneCell' = true) ∧ el w x vs
/-- The slice (a, n, c) holds the structs l, in a block of A. -/
def Sl {α : Type} (el : World → α → List Value → Prop) (sz : Nat) (A : Nat → Prop) (w : World) (a : Option Addr) (n c : Nat) (l : List α) : Prop :=
  ∃ rows, Rel2 (Row el sz w) l rows ∧ l.length = n ∧ n ≤ c ∧ c ≤ maxLen ∧ (a = none → c = 0) ∧ (0 < n → ∃ b o, a = some ⟨b, o, none⟩ ∧ b < w.heap.size ∧ A b ∧ w.rangeAt b o rows.flatten)
/-- The value v is a slice of the structs l, in memory of the call's own from block base on. -/
def OwS {α : Type} (el : World → α → List Value → Prop) (sz : Nat) (e : TypeId) (w : World) (base : Nat) (v : Value) (l : List α) : Prop :=
  ∃ rows, Rel2 (Row el sz w) l rows ∧ w.ownsRow base e sz v l.length rows.flatten
theorem rel_lens {α : Type} {el : World → α → List Value → Prop} {sz : Nat} {w : World} {l : List α} {rows : List (List Value)} (h : Rel2 (Row el sz w) l rows) : ∀ vs ∈ rows, vs.length = sz := fun vs hv => by
  obtain ⟨x, _, hr⟩ := h.mem vs hv
  exact hr.1
theorem rel_ones {α : Type} {el : World → α → List Value → Prop} {sz : Nat} {w : World} {l : List α} {rows : List (List Value)} (h : Rel2 (Row el sz w) l rows) : ∀ u ∈ rows.flatten, u.oneCell' = true := fun u hu => by
  obtain ⟨vs, hv, hu⟩ := List.mem_flatten.1 hu
  obtain ⟨x, _, hr⟩ := h.mem vs hv
  exact hr.2.1 u hu
theorem Sl.nil {α : Type} (el : World → α → List Value → Prop) (sz : Nat) (A : Nat → Prop) (w : World) : Sl el sz A w none 0 0 [] := ⟨[], trivial, rfl, Nat.le_refl _, Nat.zero_le _, fun _ => rfl, fun h => by omega⟩
theorem OwS.nil {α : Type} (el : World → α → List Value → Prop) (sz : Nat) (e : TypeId) (w : World) (base : Nat) : OwS el sz e w base (.slice none 0 0) [] := ⟨[], trivial, World.ownsRow_nil _ _ _ _⟩
theorem Sl.len {α : Type} {el : World → α → List Value → Prop} {sz : Nat} {A : Nat → Prop} {w : World} {a : Option Addr} {n c : Nat} {l : List α} (h : Sl el sz A w a n c l) : l.length = n := by
  obtain ⟨_, _, h, _⟩ := h
  exact h
theorem Sl.cap {α : Type} {el : World → α → List Value → Prop} {sz : Nat} {A : Nat → Prop} {w : World} {a : Option Addr} {n c : Nat} {l : List α} (h : Sl el sz A w a n c l) : n ≤ c ∧ c ≤ maxLen := by
  obtain ⟨_, _, _, h1, h2, _⟩ := h
  exact ⟨h1, h2⟩
/-- The i-th struct. -/
theorem Sl.at {α : Type} {el : World → α → List Value → Prop} {sz : Nat} {A : Nat → Prop} {w : World} {a : Option Addr} {n c : Nat} {l : List α} (h : Sl el sz A w a n c l) {i : Nat} {x : α} (hx : l[i]? = some x) :
    ∃ b o vs, a = some ⟨b, o, none⟩ ∧ b < w.heap.size ∧ w.rangeAt b (o + i * sz) vs ∧ vs.length = sz ∧ el w x vs := by
  obtain ⟨rows, hr, hl, _, _, _, hb⟩ := h
  have hi : i < l.length := (List.getElem?_eq_some_iff.1 hx).1
  obtain ⟨b, o, ha, hlt, _, hrg⟩ := hb (by omega)
  obtain ⟨vs, hv, h1, h2, h3⟩ := hr.at hx
  refine ⟨b, o, vs, ha, hlt, fun j v hj => ?_, h1, h3⟩
  have hjs : j < sz := by rw [← h1]; exact (List.getElem?_eq_some_iff.1 hj).1
  have := hrg (i * sz + j) v (by rw [flat_at (rel_lens hr) hv j hjs]; exact hj)
  rw [← Nat.add_assoc] at this
  exact this
theorem Sl.keep {α : Type} {el : World → α → List Value → Prop} {sz : Nat} {A : Nat → Prop} {w w' : World} {a : Option Addr} {n c : Nat} {l : List α} (h : Sl el sz A w a n c l) (hs : w.heap.size ≤ w'.heap.size) (he : ∀ x vs, el w x vs → el w' x vs) (hk : ∀ j, j < w.heap.size → A j → w'.heap[j]? = w.heap[j]?) : Sl el sz A w' a n c l := by
  obtain ⟨rows, hr, h1, h2, h3, h4, h5⟩ := h
  refine ⟨rows, hr.mono fun x vs ⟨a1, a2, a3⟩ => ⟨a1, a2, he x vs a3⟩, h1, h2, h3, h4, fun hn => ?_⟩
  obtain ⟨b, o, ha, hlt, hA, hrg⟩ := h5 hn
  exact ⟨b, o, ha, Nat.lt_of_lt_of_le hlt hs, hA, fun j v hj => by rw [World.cell?_of_block (w := w) (hk b hlt hA)]; exact hrg j v hj⟩
theorem Sl.mono {α : Type} {el el' : World → α → List Value → Prop} {sz : Nat} {A A' : Nat → Prop} {w : World} {a : Option Addr} {n c : Nat} {l : List α} (h : Sl el sz A w a n c l) (he : ∀ x vs, el w x vs → el' w x vs) (hA : ∀ j, j < w.heap.size → A j → A' j) : Sl el' sz A' w a n c l := by
  obtain ⟨rows, hr, h1, h2, h3, h4, h5⟩ := h
  refine ⟨rows, hr.mono fun x vs ⟨a1, a2, a3⟩ => ⟨a1, a2, he x vs a3⟩, h1, h2, h3, h4, fun hn => ?_⟩
  obtain ⟨b, o, ha, hlt, hA1, hrg⟩ := h5 hn
  exact ⟨b, o, ha, hlt, hA b hlt hA1, hrg⟩
/-- What is owned is a slice. -/
theorem OwS.sl {α : Type} {el : World → α → List Value → Prop} {sz : Nat} {e : TypeId} {A : Nat → Prop} {w : World} {base : Nat} {v : Value} {l : List α} (h : OwS el sz e w base v l) (hA : ∀ j, base ≤ j → j < w.heap.size → A j) : ∃ a c, v = .slice a l.length c ∧ Sl el sz A w a l.length c l := by
  obtain ⟨rows, hr, h1, h2⟩ := h
  rcases h2 with ⟨rfl, h0⟩ | ⟨g, cap, cur, rfl, hg, hh, hn, hm, hc, ht⟩
  · refine ⟨none, 0, by rw [h0], rows, hr, rfl, by omega, Nat.zero_le _, fun _ => rfl, fun hn => by omega⟩
  · have hlt : g < w.heap.size := (Array.getElem?_eq_some_iff.1 hh).1
    refine ⟨_, cap, rfl, rows, hr, rfl, hn, hm, fun e => by simp at e, fun _ => ⟨g, 0, rfl, hlt, hA g hg hlt, fun j u hj => ?_⟩⟩
    rw [Nat.zero_add, cell_of_row w g j _ e (0, 0) hh]
    have hjl : j < rows.flatten.length := (List.getElem?_eq_some_iff.1 hj).1
    rw [← ht, List.getElem?_take_of_lt (by rw [← h1]; exact hjl)] at hj
    simpa using hj
theorem OwS.shape {α : Type} {el : World → α → List Value → Prop} {sz : Nat} {e : TypeId} {w : World} {base : Nat} {v : Value} {l : List α} (h : OwS el sz e w base v l) : ∃ a n c, v = .slice a n c ∧ l.length = n := by
  obtain ⟨a, c, hv, _⟩ := h.sl (A := fun _ => True) (fun _ _ _ => trivial)
  exact ⟨a, _, c, hv, rfl⟩
theorem OwS.sl3 {α : Type} {el : World → α → List Value → Prop} {sz : Nat} {e : TypeId} {A : Nat → Prop} {w : World} {base : Nat} {a : Option Addr} {n c : Nat} {l : List α} (h : OwS el sz e w base (.slice a n c) l) (hA : ∀ j, base ≤ j → j < w.heap.size → A j) : Sl el sz A w a n c l := by
  obtain ⟨a', c', hv, hs⟩ := h.sl hA
  simp only [Value.slice.injEq] at hv
  obtain ⟨rfl, rfl, rfl⟩ := hv
  exact hs
theorem OwS.keep {α : Type} {el : World → α → List Value → Prop} {sz : Nat} {e : TypeId} {w w' : World} {base : Nat} {v : Value} {l : List α} (h : OwS el sz e w base v l) (he : ∀ x vs, el w x vs → el w' x vs) (hk : ∀ j, v.ownBlock = some j → w'.heap[j]? = w.heap[j]?) : OwS el sz e w' base v l := by
  obtain ⟨rows, hr, h1, h2⟩ := h
  refine ⟨rows, hr.mono fun x vs ⟨a1, a2, a3⟩ => ⟨a1, a2, he x vs a3⟩, h1, ?_⟩
  rcases h2 with h2 | ⟨g, cap, cur, rfl, hg, hh, r⟩
  · exact Or.inl h2
  · exact Or.inr ⟨g, cap, cur, rfl, hg, by rw [hk g rfl]; exact hh, r⟩
theorem OwS.lt {α : Type} {el : World → α → List Value → Prop} {sz : Nat} {e : TypeId} {w : World} {base : Nat} {v : Value} {l : List α} (h : OwS el sz e w base v l) : ∀ k, v.ownBlock = some k → base ≤ k ∧ k < w.heap.size := by
  obtain ⟨rows, hr, ho⟩ := h
  exact fun k hk => World.ownsRow.lt ho k hk
theorem OwS.type {α : Type} {el : World → α → List Value → Prop} {sz : Nat} {e : TypeId} {w : World} {base : Nat} {v : Value} {l : List α} (h : OwS el sz e w base v l) : ∀ k, v.ownBlock = some k → ∃ cur, w.heap[k]? = some (.cells cur e (0, 0)) := by
  obtain ⟨rows, hr, ho⟩ := h
  intro k hk
  rcases ho.2 with ⟨rfl, _⟩ | ⟨g, cap, cur, rfl, _, hh, _⟩
  · simp [Value.ownBlock] at hk
  · simp only [Value.ownBlock, Option.some.injEq] at hk
    subst hk
    exact ⟨cur, hh⟩
theorem OwS.not5 {α : Type} {el : World → α → List Value → Prop} {sz : Nat} {e : TypeId} {w : World} {base : Nat} {v : Value} {l : List α} (h : OwS el sz e w base v l) (he : e ≠ 5) : ∀ j cur f, v.ownBlock = some j → w.heap[j]? ≠ some (.cells cur 5 f) := fun j cur f hj hh => by
  obtain ⟨cur', h'⟩ := h.type j hj
  rw [h'] at hh
  simp only [Option.some.injEq, Obj.cells.injEq] at hh
  exact he hh.2.1

/-- 'append(out, src...)' of structs, out the call's own. -/
theorem wpList_slapp {α : Type} (el : World → α → List Value → Prop) (sz by_ : Nat) (t e : TypeId) (z : Value) (ht : Tryz.prog.underlying t = some (.slice e)) (hi : (Tryz.prog.info? e).map (fun i => (i.zero, i.size, i.bytes)) = some (some z, sz, by_)) (hzs : z.cells.size = sz) (hsz : 0 < sz) (hby : by_ ≤ 1000)
    {ops : Array Oper} {rest : List Oper} {o : Oper} {a : Act} {Q : Exit → Act → World → Prop} (w : World) (hgd : o.guard = none) (s x : Operand)
    (ho : o.op = Op.call { callee := Callee.builtin Builtin.append, args := #[s, x], argTypes := #[t, t] }) (base : Nat) (v : Value) (l : List α) (hs : a.eval s = v) (hown : OwS el sz e w base v l)
    (A : Nat → Prop) (ao : Option Addr) (m c : Nat) (news : List α) (hx : a.eval x = .slice ao m c) (hsrc : Sl el sz A w ao m c news) (hz : l.length + news.length ≤ 1000000) (hbase : base ≤ w.heap.size)
    (hel : ∀ w' x vs, w.grownBy w' v.ownBlock → el w x vs → el w' x vs)
    (h : ∀ v' w', OwS el sz e w' base v' (l ++ news) → w.grownBy w' v.ownBlock → wpList Tryz.prog ops Q rest (a.put o.dst v') w') : wpList Tryz.prog ops Q (o :: rest) a w := by
  obtain ⟨i0, hi, hz0, hz1, hz2⟩ := info_parts hi
  obtain ⟨rows, hr, howr⟩ := hown
  obtain ⟨rows2, hr2, hl2, hn2, hc2, ha2, hb2⟩ := hsrc
  by_cases hm : m = 0
  · subst hm
    have e1 : news = [] := List.length_eq_zero_iff.1 hl2
    subst e1
    have e2 : rows2 = [] := List.length_eq_zero_iff.1 (by rw [← hr2.len]; rfl)
    subst e2
    cases ao with
    | none =>
      have hc0 := ha2 rfl
      subst hc0
      refine wpList_append_own_none hgd s x t ho base e i0 sz ht hi v _ _ hs howr hx ?_
      refine h v w ⟨rows, ?_, ?_⟩ (World.grownBy.refl _ _)
      · rw [List.append_nil]
        exact hr
      · rw [List.append_nil]
        exact howr
    | some ad =>
      refine wpList_append_own w hgd s x t ho base e i0 z sz by_ ht hi hz0 hz1 hz2 hzs hsz v _ _ hs howr ad 0 c [] hx (by simp) (fun j u hj => by simp at hj) (fun u hu => by cases hu) (by simp at hz; unfold maxLen; omega) (by simp at hz; rw [Nat.add_zero]; have := Nat.mul_le_mul hz hby; omega) hbase ?_
      intro v' w' ho' hg _
      refine h v' w' ⟨rows, ?_, ?_⟩ hg
      · rw [List.append_nil]
        exact hr.mono fun y vs ⟨a1, a2, a3⟩ => ⟨a1, a2, hel w' y vs hg a3⟩
      · rw [List.append_nil]
        rw [List.append_nil, Nat.add_zero] at ho'
        exact ho'
  · obtain ⟨b, o', rfl, hlt, hA, hrg⟩ := hb2 (by omega)
    have hfl := flatC_len (rel_lens hr2)
    have hrl := hr2.len
    refine wpList_append_own w hgd s x t ho base e i0 z sz by_ ht hi hz0 hz1 hz2 hzs hsz v _ _ hs howr ⟨b, o', none⟩ m c rows2.flatten hx (by rw [hfl, ← hrl, hl2]) (fun j u hj => by rw [add_none]; exact hrg j u hj) (rel_ones hr2) (by unfold maxLen; omega) (by have := Nat.mul_le_mul (show l.length + m ≤ 1000000 by omega) hby; omega) hbase ?_
    intro v' w' ho' hg _
    refine h v' w' ⟨rows ++ rows2, ?_, ?_⟩ hg
    · exact (hr.mono fun y vs ⟨a1, a2, a3⟩ => ⟨a1, a2, hel w' y vs hg a3⟩).append (hr2.mono fun y vs ⟨a1, a2, a3⟩ => ⟨a1, a2, hel w' y vs hg a3⟩)
    · rw [List.flatten_append, List.length_append, hl2]
      exact ho'

/-- append of one struct out of a literal, as an operation of a region that draws its order. -/
theorem opApp1 {α : Type} (el : World → α → List Value → Prop) (sz by_ : Nat) (t e : TypeId) (z : Value) (ht : Tryz.prog.underlying t = some (.slice e)) (hi : (Tryz.prog.info? e).map (fun i => (i.zero, i.size, i.bytes)) = some (some z, sz, by_)) (hzs : z.cells.size = sz) (hsz : 0 < sz) (hby : by_ ≤ 1000)
    {ops : Array Oper} {i : Nat} {oi : Oper} {a : Act} {Q : Exit → Act → World → Prop} {K : Act → World → Prop} (w : World) (hii : ops[i]? = some oi) (hgd : oi.guard = none) (d : Option Tmp) (hd : oi.dst = d) (s x : Operand)
    (ho : oi.op = Op.call { callee := Callee.builtin Builtin.append, args := #[s, x], argTypes := #[t, t] }) (base : Nat) (v : Value) (l : List α) (hs : a.eval s = v) (hown : OwS el sz e w base v l)
    (b c : Nat) (y : α) (vs : List Value) (hx : a.eval x = .slice (some ⟨b, 0, none⟩) 1 c) (hrg : w.rangeAt b 0 vs) (hrow : Row el sz w y vs) (hz : l.length + 1 ≤ 1000000) (hbase : base ≤ w.heap.size)
    (hel : ∀ w' x vs, w.grownBy w' v.ownBlock → el w x vs → el w' x vs)
    (h : ∀ v' w', OwS el sz e w' base v' (l ++ [y]) → w.grownBy w' v.ownBlock → K (a.put d v') w') : wpOp Tryz.prog ops Q i K a w := by
  subst hd
  obtain ⟨i0, hi, hz0, hz1, hz2⟩ := info_parts hi
  obtain ⟨rows, hr, howr⟩ := hown
  obtain ⟨h1, h2, h3⟩ := hrow
  unfold wpOp
  simp only [hii]
  rw [if_pos (by simp [Region.wanted, hgd])]
  left
  refine wp_append_own w s x t ho base e i0 z sz by_ ht hi hz0 hz1 hz2 hzs hsz v _ _ hs howr ⟨b, 0, none⟩ 1 c vs hx (by rw [h1, Nat.one_mul]) (fun j u hj => by rw [add_none]; exact hrg j u hj) h2 (by unfold maxLen; omega) (by have := Nat.mul_le_mul hz hby; omega) hbase ?_
  intro v' w' ho' hg _
  refine h v' w' ⟨rows ++ [vs], ?_, ?_⟩ hg
  · exact (hr.mono fun y vs ⟨a1, a2, a3⟩ => ⟨a1, a2, hel w' y vs hg a3⟩).append ⟨⟨h1, h2, hel w' y vs hg h3⟩, trivial⟩
  · rw [List.flatten_append, List.length_append]
    simp only [List.flatten_cons, List.flatten_nil, List.append_nil, List.length_cons, List.length_nil]
    exact ho'

/-- A slice of one struct out of a literal. -/
theorem Sl.one {α : Type} {el : World → α → List Value → Prop} {sz : Nat} {A : Nat → Prop} {w : World} {g : Nat} {vs : List Value} {t : TypeId} {x : α} (hb : Blk w g vs t) (hr : Row el sz w x vs) (hA : A g) : Sl el sz A w (some ⟨g, 0, none⟩) 1 1 [x] :=
  ⟨[vs], ⟨hr, trivial⟩, rfl, Nat.le_refl _, by unfold maxLen; omega, fun e => by simp at e, fun _ => ⟨g, 0, rfl, hb.lt, hA, by simpa using hb.whole⟩⟩

end Go.Proofs.YtlenmkhmkommcaaGreat

/-
  Plain mathematics of layer 9: what a disk is, and what each call makes of it; how the reference's disk lies in memory ('RD'). No condition; nothing of the program.
-/
namespace Go.Proofs.YtlenmkhmkommcaaGreat
open Go.RowKit

abbrev Chg := Int × List UInt8
abbrev Tch := Int × Int × List UInt8
structure Pok where
  on : Int
  at_ : Int
  kind : Int
  bytes : List UInt8
  num : Int
/-- A disk: the power, how many blocks, all that is safe (the eldest first), what waits, what was seen, what somebody else does, how many steps there were. -/
structure DskS where
  p : PowS
  n : Int
  safe : List Chg
  loose : List Chg
  seen : List Tch
  plot : List Pok
  steps : Nat

def z512 : List UInt8 := List.replicate 512 0
/-- Bytes as a block. -/
def fitB (b : List UInt8) : List UInt8 := (b ++ z512).take 512
theorem z512_length : z512.length = 512 := List.length_replicate
theorem fitB_length (b : List UInt8) : (fitB b).length = 512 := by
  unfold fitB
  rw [List.length_take, List.length_append, z512_length]
  omega
/-- A block so many changes ago, of changes the newest first. -/
def agoR : List Chg → Int → Nat → List UInt8
  | [], _, _ => z512
  | c :: l, at_, k => if c.1 = at_ then (match k with | 0 => c.2 | k + 1 => agoR l at_ k) else agoR l at_ k
theorem agoR_zero {c : Chg} {l : List Chg} {at_ : Int} (h : c.1 = at_) : agoR (c :: l) at_ 0 = c.2 := by unfold agoR; rw [if_pos h]
theorem agoR_succ {c : Chg} {l : List Chg} {at_ : Int} {k : Nat} (h : c.1 = at_) : agoR (c :: l) at_ (k + 1) = agoR l at_ k := by rw [agoR, if_pos h]
theorem agoR_miss {c : Chg} {l : List Chg} {at_ : Int} {k : Nat} (h : ¬ c.1 = at_) : agoR (c :: l) at_ k = agoR l at_ k := by cases k <;> (rw [agoR, if_neg h])
def lookR : List Chg → Int → Option (List UInt8)
  | [], _ => none
  | c :: l, at_ => if c.1 = at_ then some c.2 else lookR l at_
theorem lookR_hit {c : Chg} {l : List Chg} {at_ : Int} (h : c.1 = at_) : lookR (c :: l) at_ = some c.2 := by unfold lookR; rw [if_pos h]
theorem lookR_miss {c : Chg} {l : List Chg} {at_ : Int} (h : ¬ c.1 = at_) : lookR (c :: l) at_ = lookR l at_ := by rw [lookR, if_neg h]
def DskS.ago (D : DskS) (at_ : Int) (k : Nat) : List UInt8 := agoR D.safe.reverse at_ k
def DskS.look (D : DskS) (at_ : Int) : List UInt8 := (lookR D.loose.reverse at_).getD (D.ago at_ 0)
def DskS.settle (D : DskS) (at_ : Int) (b : List UInt8) : DskS := { D with safe := D.safe ++ [(at_, fitB b)] }
/-- What somebody else does is nothing. -/
abbrev DskS.idle (D : DskS) (x : Pok) : Prop := x.at_ < 0 ∨ D.n ≤ x.at_ ∨ x.kind < 0 ∨ 2 < x.kind ∨ (0 < x.kind ∧ x.num < 0) ∨ (x.kind = 1 ∧ D.n ≤ x.num)
def DskS.bytesOf (D : DskS) (x : Pok) : List UInt8 := if x.kind = 2 then D.ago x.at_ x.num.toNat else if x.kind = 1 then D.look x.num else x.bytes
def DskS.poke (D : DskS) (x : Pok) : DskS := if D.idle x then D else { D.settle x.at_ (D.bytesOf x) with loose := D.loose.filter fun c => decide (c.1 ≠ x.at_) }
def DskS.pokes (D : DskS) (s : Nat) (l : List Pok) : DskS := l.foldl (fun out x => if x.on = (s : Int) then out.poke x else out) D
def DskS.tick (D : DskS) : DskS := { D.pokes D.steps D.plot with p := D.p.next, steps := if D.p.down then D.steps else D.steps + 1 }
def DskS.see (D : DskS) (t : Tch) : DskS := { D with seen := D.seen ++ [t] }
def DskS.new (p : PowS) (n : Int) : DskS := ⟨p, n, [], [], [], [], 0⟩

/-- Bytes in a block of A. -/
def BA (A : Nat → Prop) (w : World) (p : Option Addr) (m q : Nat) (b : List UInt8) : Prop := Bs w p m q b ∧ (0 < m → ∃ x, p = some x ∧ A x.block ∧ x.block < w.heap.size)
theorem BA.keep {A : Nat → Prop} {w w' : World} {p : Option Addr} {m q : Nat} {b : List UInt8} (h : BA A w p m q b) (hs : w.heap.size ≤ w'.heap.size) (hk : ∀ j, j < w.heap.size → A j → w'.heap[j]? = w.heap[j]?) : BA A w' p m q b := by
  obtain ⟨⟨h1, h2, h3, h4, h5⟩, h6⟩ := h
  refine ⟨⟨h1, h2, h3, h4, fun i hi => ?_⟩, fun hm => ?_⟩
  · obtain ⟨x, hp, ha, hb⟩ := h6 (by omega)
    obtain ⟨bb, o, hp', hc⟩ := h5 i hi
    refine ⟨bb, o, hp', ?_⟩
    rw [hp] at hp'
    obtain rfl := Option.some.inj hp'
    rw [World.cell?_of_block (w := w) (hk bb hb ha)]
    exact hc
  · obtain ⟨x, hp, ha, hb⟩ := h6 hm
    exact ⟨x, hp, ha, Nat.lt_of_lt_of_le hb hs⟩
theorem B5.ba {A : Nat → Prop} {w : World} {p : Option Addr} {m q : Nat} {b : List UInt8} (h : B5 A w p m q b) : BA A w p m q b := ⟨h.1, fun hm => by
  obtain ⟨x, cur, f, hp, ha, hb⟩ := h.2 hm
  exact ⟨x, hp, ha, (Array.getElem?_eq_some_iff.1 hb).1⟩⟩

def i64 (x : Int) : Prop := -9223372036854775808 ≤ x ∧ x ≤ 9223372036854775807
def elC (A : Nat → Prop) (w : World) (c : Chg) (vs : List Value) : Prop := ∃ p m q, vs = [.int .i64 c.1, .slice p m q] ∧ B5 A w p m q c.2 ∧ i64 c.1
def elT (A : Nat → Prop) (w : World) (t : Tch) (vs : List Value) : Prop := ∃ p m q, vs = [.int .i64 t.1, .int .i64 t.2.1, .slice p m q] ∧ B5 A w p m q t.2.2 ∧ i64 t.1 ∧ i64 t.2.1
def elP (A : Nat → Prop) (w : World) (x : Pok) (vs : List Value) : Prop := ∃ p m q, vs = [.int .i64 x.on, .int .i64 x.at_, .int .i64 x.kind, .slice p m q, .int .i64 x.num] ∧ BA A w p m q x.bytes ∧ i64 x.on ∧ i64 x.at_ ∧ i64 x.kind ∧ i64 x.num
/-- The four slices of the reference's disk. -/
structure Quad where
  sa : Option Addr
  sn : Nat
  sc : Nat
  la : Option Addr
  ln : Nat
  lc : Nat
  ta : Option Addr
  tn : Nat
  tc : Nat
  pa : Option Addr
  pn : Nat
  pq : Nat
/-- Its cells. -/
def dc (D : DskS) (q : Quad) : List Value := [.int .i64 (D.p.steps : Int), .int .i64 D.p.fuse, .bool D.p.done, .bool D.p.down, .int .i64 D.n, .slice q.sa q.sn q.sc, .slice q.la q.ln q.lc, .slice q.ta q.tn q.tc, .slice q.pa q.pn q.pq, .int .i64 (D.steps : Int)]
def dv (D : DskS) (q : Quad) : Value := .agg (dc D q).toArray
theorem dc_length (D : DskS) (q : Quad) : (dc D q).length = 10 := rfl
theorem dc_one (D : DskS) (q : Quad) : ∀ v ∈ dc D q, v.oneCell' = true := by
  intro v hv
  simp only [dc, List.mem_cons, List.not_mem_nil, or_false] at hv
  rcases hv with rfl | rfl | rfl | rfl | rfl | rfl | rfl | rfl | rfl | rfl <;> rfl
/-- The reference's disk in memory. -/
structure RD (A : Nat → Prop) (w : World) (D : DskS) (q : Quad) : Prop where
  safe : Sl (elC A) 2 A w q.sa q.sn q.sc D.safe
  loose : Sl (elC A) 2 A w q.la q.ln q.lc D.loose
  seen : Sl (elT A) 3 A w q.ta q.tn q.tc D.seen
  plot : Sl (elP A) 5 A w q.pa q.pn q.pq D.plot
/-- What is too much. -/
structure DskS.fit (D : DskS) (m : Nat) : Prop where
  p : D.p.fit m
  n : 1 ≤ D.n ∧ D.n ≤ 4096
  safe : D.safe.length ≤ 100 * m
  loose : D.loose.length ≤ m
  seen : D.seen.length ≤ m
  plot : D.plot.length ≤ 20
  steps : D.steps ≤ m

theorem elC.keep {A : Nat → Prop} {w w' : World} (hk : ∀ j, j < w.heap.size → A j → w'.heap[j]? = w.heap[j]?) : ∀ c vs, elC A w c vs → elC A w' c vs := by
  rintro c vs ⟨p, m, q, e, hb, hi⟩
  exact ⟨p, m, q, e, hb.keep fun j _ _ ha hh => hk j (Array.getElem?_eq_some_iff.1 hh).1 ha, hi⟩
theorem elT.keep {A : Nat → Prop} {w w' : World} (hk : ∀ j, j < w.heap.size → A j → w'.heap[j]? = w.heap[j]?) : ∀ c vs, elT A w c vs → elT A w' c vs := by
  rintro c vs ⟨p, m, q, e, hb, hi⟩
  exact ⟨p, m, q, e, hb.keep fun j _ _ ha hh => hk j (Array.getElem?_eq_some_iff.1 hh).1 ha, hi⟩
theorem elP.keep {A : Nat → Prop} {w w' : World} (hs : w.heap.size ≤ w'.heap.size) (hk : ∀ j, j < w.heap.size → A j → w'.heap[j]? = w.heap[j]?) : ∀ c vs, elP A w c vs → elP A w' c vs := by
  rintro c vs ⟨p, m, q, e, hb, hi⟩
  exact ⟨p, m, q, e, hb.keep hs hk, hi⟩
theorem RD.keep {A : Nat → Prop} {w w' : World} {D : DskS} {q : Quad} (h : RD A w D q) (hs : w.heap.size ≤ w'.heap.size) (hk : ∀ j, j < w.heap.size → A j → w'.heap[j]? = w.heap[j]?) : RD A w' D q :=
  ⟨h.safe.keep hs (elC.keep hk) hk, h.loose.keep hs (elC.keep hk) hk, h.seen.keep hs (elT.keep hk) hk, h.plot.keep hs (elP.keep hs hk) hk⟩
theorem BA.mono {A A' : Nat → Prop} {w : World} {p : Option Addr} {m q : Nat} {b : List UInt8} (h : BA A w p m q b) (hA : ∀ j, j < w.heap.size → A j → A' j) : BA A' w p m q b :=
  ⟨h.1, fun hm => by
    obtain ⟨x, hp, ha, hb⟩ := h.2 hm
    exact ⟨x, hp, hA _ hb ha, hb⟩⟩
theorem RD.mono {A A' : Nat → Prop} {w : World} {D : DskS} {q : Quad} (h : RD A w D q) (hA : ∀ j, j < w.heap.size → A j → A' j) : RD A' w D q :=
  ⟨h.safe.mono (fun _ _ ⟨p, m, q, e, hb, hi⟩ => ⟨p, m, q, e, hb.mono hA, hi⟩) hA, h.loose.mono (fun _ _ ⟨p, m, q, e, hb, hi⟩ => ⟨p, m, q, e, hb.mono hA, hi⟩) hA, h.seen.mono (fun _ _ ⟨p, m, q, e, hb, hi⟩ => ⟨p, m, q, e, hb.mono hA, hi⟩) hA, h.plot.mono (fun _ _ ⟨p, m, q, e, hb, hi⟩ => ⟨p, m, q, e, hb.mono hA, hi⟩) hA⟩
theorem RD.below {A : Nat → Prop} {w w' : World} {D : DskS} {q : Quad} (h : RD A w D q) (hb : Below w.heap.size w w') : RD A w' D q := h.keep hb.size fun j hj _ => hb.block j hj
theorem RD.kp {A F : Nat → Prop} {w w' : World} {D : DskS} {q : Quad} (h : RD A w D q) (k : Kp F w w') (hA : ∀ j, A j → ¬ F j) : RD A w' D q := h.keep k.size fun j hj ha => k.block j hj (hA j ha)
/-- Of structs that hold bytes in blocks of bytes nothing is lost where another row of structs is written. -/
theorem elC.grown {A : Nat → Prop} {w w' : World} {r : Option Nat} (g : w.grownBy w' r) (hr : ∀ j cur f, r = some j → w.heap[j]? ≠ some (.cells cur 5 f)) : ∀ c vs, elC A w c vs → elC A w' c vs := by
  rintro c vs ⟨p, m, q, e, hb, hi⟩
  exact ⟨p, m, q, e, hb.grown g hr, hi⟩
theorem elT.grown {A : Nat → Prop} {w w' : World} {r : Option Nat} (g : w.grownBy w' r) (hr : ∀ j cur f, r = some j → w.heap[j]? ≠ some (.cells cur 5 f)) : ∀ c vs, elT A w c vs → elT A w' c vs := by
  rintro c vs ⟨p, m, q, e, hb, hi⟩
  exact ⟨p, m, q, e, hb.grown g hr, hi⟩

end Go.Proofs.YtlenmkhmkommcaaGreat

/-
  The contracts of layer 9's reference's fit, safe and Look. Conditions: lists of at most a million.
-/
namespace Go.Proofs.YtlenmkhmkommcaaGreat
open Go.RowKit

theorem fit_set {b : List UInt8} {k : Nat} (hk : k < 512) (hb : k < b.length) : (b.take k ++ List.replicate (512 - k) 0).set k (b.getD k 0) = b.take (k + 1) ++ List.replicate (512 - (k + 1)) 0 := by
  apply List.ext_getElem?
  intro j
  rw [List.getElem?_set]
  have hl : (b.take k ++ List.replicate (512 - k) 0).length = 512 := by simp; omega
  by_cases hj : k = j
  · subst hj
    rw [if_pos rfl, if_pos (by rw [hl]; exact hk), List.getElem?_append_left (by simp; omega), List.getElem?_take_of_lt (by omega), List.getD_eq_getElem?_getD, List.getElem?_eq_getElem hb]
    rfl
  · rw [if_neg hj]
    by_cases hjk : j < k
    · rw [List.getElem?_append_left (by simp; omega), List.getElem?_append_left (by simp; omega), List.getElem?_take_of_lt hjk, List.getElem?_take_of_lt (by omega)]
    · rw [List.getElem?_append_right (by simp; omega), List.getElem?_append_right (by simp; omega)]
      simp only [List.length_take, List.getElem?_replicate]
      rw [show min k b.length = k from by omega, show min (k + 1) b.length = k + 1 from by omega]
      by_cases h : j < 512
      · rw [if_pos (by omega), if_pos (by omega)]
      · rw [if_neg (by omega), if_neg (by omega)]
theorem fit_end {b : List UInt8} {k : Nat} (hk : k ≤ 512) (hb : k ≤ b.length) (h : k = 512 ∨ k = b.length) : b.take k ++ List.replicate (512 - k) 0 = fitB b := by
  unfold fitB z512
  rcases h with rfl | rfl
  · rw [List.take_append_of_le_length hb]
    simp
  · rw [List.take_of_length_le (Nat.le_refl _), List.take_append, List.take_of_length_le hk]
    congr 1
    rw [List.take_replicate]
    congr 1
    omega

set_option maxRecDepth 100000 in
set_option maxHeartbeats 1000000 in
theorem rFit (w : World) {a : Option Addr} {n c : Nat} {b : List UInt8} (ha : Bs w a n c b) : Calls Tryz.prog 88 #[.slice a n c] w (Gives w (fitB b)) := by
  have HL : Hid (b.length = n) := ha.len
  have hmax := ha.max
  go_enter Tryz.func88, Tryz.ntmps88
  go_wp2_with (at_make; go_must (refine wpList_mkn _ rfl _ _ rfl w.heap.size 512 512 rfl rfl rfl (by omega) (Nat.le_refl _) ?_); intro g w1 hg hgl hown hbel)
  go_loopw [4] (fun i wr => ∃ k : Nat, k ≤ 512 ∧ k ≤ n ∧ i = .int .i64 (k : Int) ∧ Own wr w.heap.size (.slice (some ⟨g, 0, none⟩) 512 512) (b.take k ++ List.replicate (512 - k) 0) ∧ Below w.heap.size w wr) (fun i _ => 512 - (intOf i).toNat)
  case atStart => exact ⟨0, by omega, by omega, rfl, by simpa using hown, hbel⟩
  case round =>
    clear hown hbel
    obtain ⟨k, hk, hkn, rfl, ho, hb⟩ := hrel
    by_cases h1 : k < 512
    · have i1 : (k : Int) < 512 := by omega
      by_cases h2 : k < n
      · have i2 : (k : Int) < (n : Int) := by omega
        obtain ⟨x, o, rfl, hx, hc⟩ := ha.at (by omega)
        have cx : wr.cell? ⟨x, o + k, none⟩ = some (.int .u8 (bt b k)) := by rw [hb.cell (p := ⟨x, o + k, none⟩) hx]; exact hc k (by omega)
        obtain ⟨y, hy⟩ : ∃ y, y = b.getD k 0 := ⟨_, rfl⟩
        have by1 : bt b k = (y.toNat : Int) := by rw [hy]; rfl
        rw [by1] at cx
        have hlen : (b.take k ++ List.replicate (512 - k) 0).length = 512 := by have := HL.out; simp; omega
        obtain ⟨u, hu⟩ := ho.cell hlen k h1
        have hfz := ho.free hlen k
        have hst := ho.set hlen k y
        rw [hy, fit_set h1 (by rw [HL.out]; exact h2), ← hy] at hst
        clear hy by1 hc
        go_wp2_with fail
        go_roundw
        case rel => exact ⟨k + 1, by omega, by omega, by go_num, hst, hb.setCell (p := ⟨g, k, none⟩) hg _⟩
        case measure => simp [intOf]; omega
      · have i2 : ¬ (k : Int) < (n : Int) := by omega
        go_wp2_with fail
        go_ret
        rw [fit_end hk (by rw [HL.out]; exact hkn) (Or.inr (by rw [HL.out]; omega))] at ho
        exact Gives.mk ho hb
    · have i1 : ¬ (k : Int) < 512 := by omega
      go_wp2_with fail
      go_ret
      rw [fit_end hk (by rw [HL.out]; exact hkn) (Or.inl (by omega))] at ho
      exact Gives.mk ho hb

theorem rev_take {α : Type} {l : List α} {s : Nat} {x : α} (h : l[s]? = some x) : (l.take (s + 1)).reverse = x :: (l.take s).reverse := by
  rw [List.take_add_one, h]
  simp
theorem Sl.change {A : Nat → Prop} {w : World} {a : Option Addr} {n c : Nat} {l : List Chg} (h : Sl (elC A) 2 A w a n c l) {s : Nat} {x : Chg} (hx : l[s]? = some x) : ∃ b o p m q, a = some ⟨b, o, none⟩ ∧ b < w.heap.size ∧ w.cell? ⟨b, o + s * 2, none⟩ = some (.int .i64 x.1) ∧ w.cell? ⟨b, o + s * 2 + 1, none⟩ = some (.slice p m q) ∧ B5 A w p m q x.2 ∧ i64 x.1 := by
  obtain ⟨b, o, vs, ha, hlt, hrg, hl, p, m, q, rfl, hb, hi⟩ := h.at hx
  exact ⟨b, o, p, m, q, ha, hlt, by have := hrg 0 _ rfl; rwa [Nat.add_zero] at this, hrg 1 _ rfl, hb, hi⟩

set_option maxRecDepth 100000 in
set_option maxHeartbeats 2000000 in
theorem rSafe (w : World) {A : Nat → Prop} {D : DskS} {q : Quad} (h : RD A w D q) (hA : ∀ j, w.heap.size ≤ j → A j) (at_ : Int) (k : Nat) (hz : D.safe.length ≤ 1000000) (hk : k ≤ 9223372036854775807) :
    Calls Tryz.prog 55 #[dv D q, .int .i64 at_, .int .i64 (k : Int)] w fun e w' => ∃ p m c, e = .returned (.slice p m c) ∧ B5 A w' p m c (D.ago at_ k) ∧ Below w.heap.size w w' := by
  have hS : Hid (Sl (elC A) 2 A w q.sa q.sn q.sc D.safe) := h.safe
  obtain ⟨sa, sn, sc, la, ln, lc, ta, tn, tc, pa, pn, pq⟩ := q
  obtain ⟨⟨ps, pf, pd, pg⟩, n, safe, loose, seen, plot, steps⟩ := D
  clear h
  dsimp only at hS hz
  unfold dv dc DskS.ago
  dsimp only
  have hsn : safe.length = sn := hS.out.len
  have HSN : Hid (safe.length = sn) := hsn
  have hsn1 : sn ≤ 1000000 := by omega
  have hbox := below_alloc w (.cells #[.int .i64 (ps : Int), .int .i64 pf, .bool pd, .bool pg, .int .i64 n, .slice sa sn sc, .slice la ln lc, .slice ta tn tc, .slice pa pn pq, .int .i64 (steps : Int)] 42)
  clear hsn hz
  go_enter Tryz.func55, Tryz.ntmps55
  go_wp2_with fail
  go_loop [7, 8] (fun kk i => ∃ (t K : Nat), t ≤ sn ∧ K ≤ 9223372036854775807 ∧ i = .int .i64 ((t : Int) - 1) ∧ kk = .int .i64 (K : Int) ∧ Hid (agoR (safe.take t).reverse at_ K = agoR safe.reverse at_ k)) (fun _ i => (intOf i + 1).toNat)
  case atStart => exact ⟨sn, k, Nat.le_refl _, hk, rfl, rfl, by show _ = _; rw [List.take_of_length_le (by rw [HSN.out]; exact Nat.le_refl _)]⟩
  case round =>
    obtain ⟨t, K, ht, hK, rfl, rfl, HI⟩ := hrel
    cases t with
    | zero =>
      have i0 : ¬ (0 : Int) ≤ ((0 : Nat) : Int) - 1 := by omega
      have HE : Hid (agoR safe.reverse at_ k = z512) := by show _ = _; rw [← HI.out]; rfl
      clear HI
      go_wp2_with (at_make; go_must (refine wpList_mkn _ rfl _ _ rfl (w.heap.size + 1) 512 512 rfl rfl rfl (by omega) (by simp) ?_); intro g w1 hg hgl hown hbel)
      go_ret
      rw [HE.out]
      have hb2 : Below w.heap.size w w1 := hbox.trans (hbel.mono (by omega))
      exact ⟨_, _, _, rfl, Own.b5 hown (fun j hj _ => hA j (by omega)), hb2⟩
    | succ s =>
      obtain ⟨x, hx⟩ : ∃ x, safe[s]? = some x := ⟨_, List.getElem?_eq_getElem (by rw [HSN.out]; omega)⟩
      obtain ⟨b, o, p, m, c, rfl, hb, cx, cy, hB, hi⟩ := hS.out.change hx
      have HR := rev_take hx
      have HRV : Hid ((safe.take (s + 1)).reverse = x :: (safe.take s).reverse) := HR
      clear HR
      have i0 : (0 : Int) ≤ ((s + 1 : Nat) : Int) - 1 := by omega
      have i1 : ((s + 1 : Nat) : Int) - 1 = (s : Int) := by omega
      have i2 : (s : Int) < (sn : Int) := by omega
      have i3 : (0 : Int) ≤ (s : Int) := by omega
      obtain ⟨xa, xb⟩ := x
      dsimp only at cx cy hB hi HRV
      clear hx
      rw [i1]
      clear i0 i1
      by_cases hat : xa = at_
      · subst hat
        cases K with
        | zero =>
          have HE : Hid (agoR safe.reverse xa k = xb) := by show _ = _; rw [← HI.out, HRV.out, agoR_zero rfl]
          clear HI HRV
          go_wp2_with fail
          go_ret
          rw [HE.out]
          exact ⟨p, m, c, rfl, hB.below hbox, hbox⟩
        | succ K =>
          have HE : Hid (agoR (safe.take s).reverse xa K = agoR safe.reverse xa k) := by show _ = _; rw [← HI.out, HRV.out, agoR_succ rfl]
          have j0 : (((K + 1 : Nat) : Int) == 0) = false := by rw [beq_eq_false_iff_ne]; omega
          have j1 : ((K + 1 : Nat) : Int) - 1 = (K : Int) := by omega
          clear HI HRV
          go_wp2_with fail
          go_round
          case rel => exact ⟨s, K, by omega, by omega, rfl, by go_num, HE⟩
          case measure => simp [intOf]
      · have HE : Hid (agoR (safe.take s).reverse at_ K = agoR safe.reverse at_ k) := by show _ = _; rw [← HI.out, HRV.out, agoR_miss hat]
        have j0 : (xa != at_) = true := by simp [hat]
        clear HI HRV hat
        go_wp2_with fail
        go_round
        case rel => exact ⟨s, K, by omega, by omega, rfl, rfl, HE⟩
        case measure => simp [intOf]

set_option maxRecDepth 100000 in
set_option maxHeartbeats 2000000 in
theorem rLook (w : World) {A : Nat → Prop} {D : DskS} {q : Quad} (h : RD A w D q) (hA : ∀ j, w.heap.size ≤ j → A j) (at_ : Int) (hz : D.safe.length ≤ 1000000) (hz2 : D.loose.length ≤ 1000000) :
    Calls Tryz.prog 31 #[dv D q, .int .i64 at_] w fun e w' => ∃ p m c, e = .returned (.slice p m c) ∧ B5 A w' p m c (D.look at_) ∧ Below w.heap.size w w' := by
  have hS : Hid (Sl (elC A) 2 A w q.la q.ln q.lc D.loose) := h.loose
  have hbox := below_alloc w (.cells (dc D q).toArray 42)
  have CS : Hid (Calls Tryz.prog 55 #[dv D q, .int .i64 at_, .int .i64 0] (w.alloc (.cells (dc D q).toArray 42)) fun e w' => ∃ p m c, e = .returned (.slice p m c) ∧ B5 A w' p m c (D.ago at_ 0) ∧ Below w.heap.size w w') := (rSafe _ (h.below hbox) (fun j hj => hA j (Nat.le_trans hbox.size hj)) at_ 0 hz (by omega)).mono fun e w' ⟨p, m, c, he, hb, hw⟩ => ⟨p, m, c, he, hb, hbox.trans (hw.mono hbox.size)⟩
  unfold DskS.look
  generalize D.ago at_ 0 = G at *
  obtain ⟨sa, sn, sc, la, ln, lc, ta, tn, tc, pa, pn, pq⟩ := q
  obtain ⟨⟨ps, pf, pd, pg⟩, n, safe, loose, seen, plot, steps⟩ := D
  clear h
  dsimp only at hS hz hz2
  unfold dv dc at CS ⊢
  unfold dc at hbox
  dsimp only at CS hbox ⊢
  have hsn : loose.length = ln := hS.out.len
  have HSN : Hid (loose.length = ln) := hsn
  have hsn1 : ln ≤ 1000000 := by omega
  clear hsn hz hz2
  go_enter Tryz.func31, Tryz.ntmps31
  go_wp2_with fail
  go_loop [5] (fun i => ∃ t : Nat, t ≤ ln ∧ i = .int .i64 ((t : Int) - 1) ∧ Hid (lookR (loose.take t).reverse at_ = lookR loose.reverse at_)) (fun i => (intOf i + 1).toNat)
  case atStart => exact ⟨ln, Nat.le_refl _, rfl, by show _ = _; rw [List.take_of_length_le (by rw [HSN.out]; exact Nat.le_refl _)]⟩
  case round =>
    obtain ⟨t, ht, rfl, HI⟩ := hrel
    cases t with
    | zero =>
      have i0 : ¬ (0 : Int) ≤ ((0 : Nat) : Int) - 1 := by omega
      have HE : Hid ((lookR loose.reverse at_).getD G = G) := by show _ = _; rw [← HI.out]; rfl
      clear HI
      go_wp2_with (go_at_call 55; go_must (refine CS.out.mono ?_); rintro e w2 ⟨p, m, c, rfl, hB, hb2⟩)
      go_ret
      rw [HE.out]
      exact ⟨p, m, c, rfl, hB, hb2⟩
    | succ s =>
      obtain ⟨x, hx⟩ : ∃ x, loose[s]? = some x := ⟨_, List.getElem?_eq_getElem (by rw [HSN.out]; omega)⟩
      obtain ⟨b, o, p, m, c, rfl, hb, cx, cy, hB, hi⟩ := hS.out.change hx
      have HRV : Hid ((loose.take (s + 1)).reverse = x :: (loose.take s).reverse) := rev_take hx
      have i1 : ((s + 1 : Nat) : Int) - 1 = (s : Int) := by omega
      have i2 : (s : Int) < (ln : Int) := by omega
      have i3 : (0 : Int) ≤ (s : Int) := by omega
      obtain ⟨xa, xb⟩ := x
      dsimp only at cx cy hB hi HRV
      clear hx
      rw [i1]
      clear i1
      by_cases hat : xa = at_
      · subst hat
        have HE : Hid ((lookR loose.reverse xa).getD G = xb) := by show _ = _; rw [← HI.out, HRV.out, lookR_hit rfl]; rfl
        clear HI HRV
        go_wp2_with fail
        go_ret
        rw [HE.out]
        exact ⟨p, m, c, rfl, hB.below hbox, hbox⟩
      · have HE : Hid (lookR (loose.take s).reverse at_ = lookR loose.reverse at_) := by show _ = _; rw [← HI.out, HRV.out, lookR_miss hat]
        have j0 : (xa == at_) = false := by simp [hat]
        clear HI HRV hat
        go_wp2_with fail
        go_round
        case rel => exact ⟨s, by omega, rfl, HE⟩
        case measure => simp [intOf]

end Go.Proofs.YtlenmkhmkommcaaGreat
