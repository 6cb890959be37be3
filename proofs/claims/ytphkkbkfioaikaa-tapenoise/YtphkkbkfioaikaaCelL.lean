/-
  Plain mathematics of layer 10: what a cell is, and what each call makes of it; how the reference's cell lies in memory ('RC'). No condition; nothing of the program.
-/
import Derived.Test.YtphkkbkfioaikaaDskL
namespace Go.Proofs.Ytphkkbkfioaikaa
open Go.RowKit

/-- A cell: the power, its sectors, how many were written. -/
structure CelS where
  p : PowS
  l : List (List UInt8)
  writes : Nat
def z1k : List UInt8 := List.replicate 1024 0
theorem z1k_length : z1k.length = 1024 := List.length_replicate
/-- Bytes as a sector. -/
def fitK (b : List UInt8) : List UInt8 := (b ++ z1k).take 1024
theorem fitK_length (b : List UInt8) : (fitK b).length = 1024 := by
  unfold fitK
  rw [List.length_take, List.length_append, z1k_length]
  omega
theorem fitK_eq {b : List UInt8} (h : b.length ≤ 1024) : fitK b = b ++ List.replicate (1024 - b.length) 0 := by
  unfold fitK z1k
  rw [List.take_append, List.take_of_length_le h, List.take_replicate]
  congr 2
  omega
def CelS.new (p : PowS) : CelS := ⟨p, [z1k, z1k, z1k, z1k], 0⟩
def CelS.read (C : CelS) (at_ : Int) : List UInt8 × Int := if at_ < 0 ∨ 3 < at_ then ([], 2) else if C.p.down then ([], 5) else (C.l.getD at_.toNat [], 0)
def CelS.wrote (C : CelS) (at_ : Int) (b : List UInt8) : CelS := if C.p.does then ⟨C.p.next, C.l.set at_.toNat (fitK b), C.writes + 1⟩ else { C with p := C.p.next }
def CelS.write (C : CelS) (at_ : Int) (b : List UInt8) : CelS × Int := if at_ < 0 ∨ 3 < at_ then (C, 2) else if 1024 < b.length then (C, 17) else (C.wrote at_ b, if C.p.ok then 0 else 5)
/-- What is too much. -/
structure CelS.fit (C : CelS) (m : Nat) : Prop where
  p : C.p.fit m
  l : C.l.length = 4
  s : ∀ x ∈ C.l, x.length = 1024
  writes : C.writes ≤ m
theorem CelS.fit_new : (CelS.new PowS.new).fit 0 := ⟨PowS.fit_new, rfl, fun x hx => by
  simp only [CelS.new, List.mem_cons, List.not_mem_nil, or_false] at hx
  rcases hx with rfl | rfl | rfl | rfl <;> exact z1k_length, Nat.le_refl _⟩
theorem CelS.fit.mono {C : CelS} {m n : Nat} (h : C.fit m) (hm : m ≤ n) : C.fit n := ⟨PowS.fit_mono h.p hm, h.l, h.s, by have := h.writes; omega⟩
theorem CelS.fit.power {C : CelS} {m : Nat} (h : C.fit m) {P : PowS} (hP : P.fit m) : ({ C with p := P } : CelS).fit m := ⟨hP, h.l, h.s, h.writes⟩
theorem CelS.fit.a_wrote {C : CelS} {m : Nat} (h : C.fit m) (at_ : Int) (b : List UInt8) : (C.wrote at_ b).fit (m + 1) := by
  unfold CelS.wrote
  split
  · refine ⟨PowS.fit_next h.p, by rw [List.length_set]; exact h.l, fun x hx => ?_, by have := h.writes; show C.writes + 1 ≤ _; omega⟩
    rcases List.mem_or_eq_of_mem_set hx with hx | rfl
    · exact h.s x hx
    · exact fitK_length b
  · exact ⟨PowS.fit_next h.p, h.l, h.s, by have := h.writes; show C.writes ≤ _; omega⟩
theorem CelS.fit.a_write {C : CelS} {m : Nat} (h : C.fit m) (at_ : Int) (b : List UInt8) : (C.write at_ b).1.fit (m + 1) := by
  unfold CelS.write
  split
  · exact h.mono (by omega)
  · split
    · exact h.mono (by omega)
    · exact h.a_wrote at_ b
theorem CelS.fit.sec {C : CelS} {m : Nat} (h : C.fit m) {k : Nat} (hk : k < 4) : C.l[k]? = some (C.l.getD k []) ∧ (C.l.getD k []).length = 1024 := by
  have hl : k < C.l.length := by rw [h.l]; exact hk
  have e : C.l[k]? = some (C.l.getD k []) := by rw [List.getD_eq_getElem?_getD, List.getElem?_eq_getElem hl]; rfl
  exact ⟨e, h.s _ (List.mem_of_getElem? e)⟩

theorem ok_does' {S : PowS} (h : S.ok = true) : S.does = true := by
  unfold PowS.ok at h
  unfold PowS.does
  cases hd : S.down <;> simp_all
/-- Bytes as an element of a slice. -/
def elB (A : Nat → Prop) (w : World) (b : List UInt8) (vs : List Value) : Prop := ∃ p m q, vs = [.slice p m q] ∧ B5 A w p m q b
theorem elB.keep {A : Nat → Prop} {w w' : World} (hk : ∀ j, j < w.heap.size → A j → w'.heap[j]? = w.heap[j]?) : ∀ c vs, elB A w c vs → elB A w' c vs := by
  rintro c vs ⟨p, m, q, e, hb⟩
  exact ⟨p, m, q, e, hb.keep fun j _ _ ha hh => hk j (Array.getElem?_eq_some_iff.1 hh).1 ha⟩
theorem elB.grown {A : Nat → Prop} {w w' : World} {r : Option Nat} (g : w.grownBy w' r) (hr : ∀ j cur f, r = some j → w.heap[j]? ≠ some (.cells cur 5 f)) : ∀ c vs, elB A w c vs → elB A w' c vs := by
  rintro c vs ⟨p, m, q, e, hb⟩
  exact ⟨p, m, q, e, hb.grown g hr⟩
/-- The reference's slice. -/
structure Tri where
  la : Option Addr
  ln : Nat
  lc : Nat
/-- The reference's cell as cells, as a value. -/
def cc (C : CelS) (q : Tri) : List Value := [.int .i64 (C.p.steps : Int), .int .i64 C.p.fuse, .bool C.p.done, .bool C.p.down, .slice q.la q.ln q.lc, .int .i64 (C.writes : Int)]
def cv (C : CelS) (q : Tri) : Value := .agg (cc C q).toArray
theorem cc_one (C : CelS) (q : Tri) : ∀ v ∈ cc C q, v.oneCell' = true := by
  intro v hv
  simp only [cc, List.mem_cons, List.not_mem_nil, or_false] at hv
  rcases hv with rfl | rfl | rfl | rfl | rfl | rfl <;> rfl
/-- The reference's cell in memory. -/
def RC (A : Nat → Prop) (w : World) (C : CelS) (q : Tri) : Prop := Sl (elB A) 1 A w q.la q.ln q.lc C.l
theorem RC.keep {A : Nat → Prop} {w w' : World} {C : CelS} {q : Tri} (h : RC A w C q) (hs : w.heap.size ≤ w'.heap.size) (hk : ∀ j, j < w.heap.size → A j → w'.heap[j]? = w.heap[j]?) : RC A w' C q := Sl.keep h hs (elB.keep hk) hk
theorem RC.below {A : Nat → Prop} {w w' : World} {C : CelS} {q : Tri} (h : RC A w C q) (hb : Below w.heap.size w w') : RC A w' C q := h.keep hb.size fun j hj _ => hb.block j hj
theorem RC.kp {A F : Nat → Prop} {w w' : World} {C : CelS} {q : Tri} (h : RC A w C q) (k : Kp F w w') (hA : ∀ j, A j → ¬ F j) : RC A w' C q := h.keep k.size fun j hj ha => k.block j hj (hA j ha)
theorem RC.mono {A A' : Nat → Prop} {w : World} {C : CelS} {q : Tri} (h : RC A w C q) (hA : ∀ j, j < w.heap.size → A j → A' j) : RC A' w C q := Sl.mono h (fun _ _ ⟨p, m, q, e, hb⟩ => ⟨p, m, q, e, hb.mono hA⟩) hA
/-- The sector k. -/
theorem Sl.bytes {A : Nat → Prop} {w : World} {a : Option Addr} {n c : Nat} {l : List (List UInt8)} (h : Sl (elB A) 1 A w a n c l) {s : Nat} {x : List UInt8} (hx : l[s]? = some x) : ∃ b o p m q, a = some ⟨b, o, none⟩ ∧ b < w.heap.size ∧ w.cell? ⟨b, o + s, none⟩ = some (.slice p m q) ∧ B5 A w p m q x := by
  obtain ⟨b, o, vs, ha, hlt, hrg, hl, p, m, q, rfl, hb⟩ := h.at hx
  exact ⟨b, o, p, m, q, ha, hlt, by have := hrg 0 _ rfl; rwa [Nat.add_zero, Nat.mul_one] at this, hb⟩
/-- Making a sector, byte by byte. -/
theorem fitK_set {b : List UInt8} {k : Nat} (h1 : k < 1024) (h2 : k < b.length) : (b.take k ++ List.replicate (1024 - k) 0).set k (b.getD k 0) = b.take (k + 1) ++ List.replicate (1024 - (k + 1)) 0 := by
  rw [List.set_append_right _ _ (by rw [List.length_take]; omega), List.take_add_one, List.getElem?_eq_getElem h2, List.length_take, show k - min k b.length = 0 from by omega, show 1024 - k = (1024 - (k + 1)) + 1 from by omega, List.replicate_succ, List.set_cons_zero, List.getD_eq_getElem?_getD, List.getElem?_eq_getElem h2]
  simp only [Option.getD_some, Option.toList_some, List.append_assoc, List.cons_append, List.nil_append]

end Go.Proofs.Ytphkkbkfioaikaa
