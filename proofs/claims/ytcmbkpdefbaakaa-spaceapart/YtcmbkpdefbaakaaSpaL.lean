/-
  Plain mathematics of layer 15: which blocks are taken, and what each call makes of it. No condition; nothing of the program.
-/
import Derived.Test.YtcmbkpdefbaakaaPowL
namespace Go.Proofs.Ytcmbkpdefbaakaa
open Go.RowKit

/-- How many of the first k are free. -/
def freeN (l : List Bool) : Nat → Nat
  | 0 => 0
  | k + 1 => freeN l k + (if l.getD k false then 0 else 1)
theorem freeN_le (l : List Bool) : ∀ k, freeN l k ≤ k
  | 0 => Nat.le_refl _
  | k + 1 => by
    have := freeN_le l k
    unfold freeN
    split <;> omega
def freeL (l : List Bool) : Nat := freeN l l.length
/-- Is each of n blocks from a on as it should be? -/
def allB (l : List Bool) (a n : Nat) (b : Bool) : Bool := (List.range n).all fun i => l.getD (a + i) false == b
theorem allB_zero (l : List Bool) (a : Nat) (b : Bool) : allB l a 0 b = true := rfl
theorem allB_succ (l : List Bool) (a n : Nat) (b : Bool) : allB l a (n + 1) b = (allB l a n b && (l.getD (a + n) false == b)) := by
  unfold allB
  rw [List.range_succ, List.all_append]
  simp
theorem allB_iff (l : List Bool) (a n : Nat) (b : Bool) : allB l a n b = true ↔ ∀ i, i < n → l.getD (a + i) false = b := by
  unfold allB
  simp only [List.all_eq_true, List.mem_range, beq_iff_eq]
theorem allB_false {l : List Bool} {a n : Nat} {b : Bool} {i : Nat} (hi : i < n) (h : l.getD (a + i) false = !b) : allB l a n b = false := by
  cases e : allB l a n b with
  | false => rfl
  | true =>
    have := (allB_iff l a n b).1 e i hi
    rw [h] at this
    cases b <;> simp at this
theorem allB_mono {l : List Bool} {a n k : Nat} {b : Bool} (hk : k ≤ n) (h : allB l a k b = false) : allB l a n b = false := by
  cases e : allB l a n b with
  | false => rfl
  | true =>
    have : allB l a k b = true := (allB_iff l a k b).2 fun i hi => (allB_iff l a n b).1 e i (by omega)
    rw [this] at h
    cases h
/-- A run put to taken, or to free. -/
def putF (l : List Bool) (a n : Nat) (b : Bool) (i : Nat) : Bool := if a ≤ i ∧ i < a + n then b else l.getD i false
def putB (l : List Bool) (a n : Nat) (b : Bool) : List Bool := (List.range l.length).map (putF l a n b)
theorem putB_length (l : List Bool) (a n : Nat) (b : Bool) : (putB l a n b).length = l.length := by simp [putB]
theorem putB_get (l : List Bool) (a n : Nat) (b : Bool) {i : Nat} (hi : i < l.length) : (putB l a n b).getD i false = putF l a n b i := by
  unfold putB
  rw [List.getD_eq_getElem?_getD, List.getElem?_map, List.getElem?_range hi]
  rfl
theorem ext_getD {l m : List Bool} (hl : l.length = m.length) (h : ∀ i, i < l.length → l.getD i false = m.getD i false) : l = m := by
  apply List.ext_getElem hl
  intro i h1 h2
  have := h i h1
  rw [List.getD_eq_getElem?_getD, List.getD_eq_getElem?_getD, List.getElem?_eq_getElem h1, List.getElem?_eq_getElem h2] at this
  exact this
theorem putB_zero (l : List Bool) (a : Nat) (b : Bool) : putB l a 0 b = l := by
  apply ext_getD (putB_length _ _ _ _)
  intro i hi
  rw [putB_length] at hi
  rw [putB_get _ _ _ _ hi]
  unfold putF
  rw [if_neg (by omega)]
theorem set_getD (l : List Bool) (k i : Nat) (b : Bool) (hi : i < l.length) : (l.set k b).getD i false = if k = i then b else l.getD i false := by
  rw [List.getD_eq_getElem?_getD, List.getElem?_set]
  split
  · rw [if_pos (by omega)]
    rfl
  · rw [List.getD_eq_getElem?_getD]
theorem putB_succ (l : List Bool) (a n : Nat) (b : Bool) : (putB l a n b).set (a + n) b = putB l a (n + 1) b := by
  apply ext_getD (by simp [putB])
  intro i hi
  rw [List.length_set, putB_length] at hi
  rw [set_getD _ _ _ _ (by rw [putB_length]; exact hi), putB_get _ _ _ _ hi, putB_get _ _ _ _ hi]
  unfold putF
  by_cases e : a + n = i
  · rw [if_pos e, if_pos (by omega)]
  · rw [if_neg e]
    by_cases h : a ≤ i ∧ i < a + n
    · rw [if_pos h, if_pos (by omega)]
    · rw [if_neg h, if_neg (by omega)]

/-- Blocks: how many are taken for good; of each, whether it is taken. -/
structure SpS where
  first : Nat
  l : List Bool
/-- What may be. -/
structure SpS.ok (S : SpS) : Prop where
  n1 : 1 ≤ S.l.length
  n2 : S.l.length ≤ 4096
  f : S.first ≤ S.l.length
def SpS.new (n f : Nat) : SpS := ⟨f, (List.range n).map fun i => decide (i < f)⟩
theorem SpS.new_len (n f : Nat) : (SpS.new n f).l.length = n := by simp [SpS.new]
theorem SpS.new_get (n f : Nat) {i : Nat} (hi : i < n) : (SpS.new n f).l.getD i false = decide (i < f) := by
  unfold SpS.new
  rw [List.getD_eq_getElem?_getD, List.getElem?_map, List.getElem?_range hi]
  rfl
theorem new_put (n f : Nat) : putB (List.replicate n false) 0 f true = (SpS.new n f).l := by
  apply ext_getD (by simp [putB, SpS.new])
  intro i hi
  rw [putB_length, List.length_replicate] at hi
  rw [putB_get _ _ _ _ (by simpa using hi), SpS.new_get _ _ hi]
  unfold putF
  by_cases h : i < f
  · rw [if_pos (by omega), decide_eq_true h]
  · rw [if_neg (by omega), decide_eq_false h, List.getD_eq_getElem?_getD, List.getElem?_replicate]
    simp [hi]
/-- Is a block taken, or is there none? -/
def SpS.taken (S : SpS) (k : Int) : Bool := decide (k < 0) || decide ((S.l.length : Int) ≤ k) || S.l.getD k.toNat false
theorem SpS.taken_in (S : SpS) {k : Nat} (hk : k < S.l.length) : S.taken (k : Int) = S.l.getD k false := by
  unfold SpS.taken
  rw [decide_eq_false (by omega), decide_eq_false (by omega), Int.toNat_natCast]
  rfl
theorem SpS.taken_out (S : SpS) {k : Int} (h : k < 0 ∨ (S.l.length : Int) ≤ k) : S.taken k = true := by
  unfold SpS.taken
  rcases h with h | h
  · rw [decide_eq_true h]; rfl
  · rw [decide_eq_true h, Bool.or_true]; rfl
/-- Does a run lie behind those that are taken for good, within all? -/
abbrev SpS.has (S : SpS) (a n : Int) : Prop := 1 ≤ n ∧ (S.first : Int) ≤ a ∧ a ≤ (S.l.length : Int) - n
/-- A run is marked (b), or given back. -/
def SpS.run (S : SpS) (a n : Int) (b : Bool) (wrong : Int) : SpS × Int :=
  if S.has a n then (if allB S.l a.toNat n.toNat (!b) then (⟨S.first, putB S.l a.toNat n.toNat b⟩, 0) else (S, wrong)) else (S, 2)
def SpS.mark (S : SpS) (a n : Int) : SpS × Int := S.run a n true 10
def SpS.give (S : SpS) (a n : Int) : SpS × Int := S.run a n false 9
theorem SpS.ok_put {S : SpS} (h : S.ok) (a n : Nat) (b : Bool) : (SpS.mk S.first (putB S.l a n b)).ok := ⟨by show 1 ≤ (putB _ _ _ _).length; rw [putB_length]; exact h.n1, by show (putB _ _ _ _).length ≤ _; rw [putB_length]; exact h.n2, by show _ ≤ (putB _ _ _ _).length; rw [putB_length]; exact h.f⟩
theorem SpS.ok_new {n f : Nat} (h1 : 1 ≤ n) (h2 : n ≤ 4096) (h3 : f ≤ n) : (SpS.new n f).ok := ⟨by rw [SpS.new_len]; exact h1, by rw [SpS.new_len]; exact h2, by rw [SpS.new_len]; exact h3⟩
theorem SpS.run_not {S : SpS} {a n : Int} (h : ¬ S.has a n) (b : Bool) (wrong : Int) : S.run a n b wrong = (S, 2) := by
  unfold SpS.run
  rw [if_neg h]
theorem SpS.run_in {S : SpS} {a n : Nat} (h : S.has a n) (b : Bool) (wrong : Int) : S.run a n b wrong = if allB S.l a n (!b) then (⟨S.first, putB S.l a n b⟩, 0) else (S, wrong) := by
  unfold SpS.run
  rw [if_pos h, Int.toNat_natCast, Int.toNat_natCast]
theorem SpS.has_nat {S : SpS} {a n : Int} (h : S.has a n) : ∃ x m : Nat, a = x ∧ n = m ∧ 1 ≤ m ∧ S.first ≤ x ∧ x + m ≤ S.l.length := by
  obtain ⟨h1, h2, h3⟩ := h
  exact ⟨a.toNat, n.toNat, by omega, by omega, by omega, by omega, by omega⟩
/-- What a run's change leaves of lengths. -/
theorem SpS.run_len (S : SpS) (a n : Int) (b : Bool) (wrong : Int) : (S.run a n b wrong).1.l.length = S.l.length ∧ (S.run a n b wrong).1.first = S.first := by
  unfold SpS.run
  split
  · split
    · exact ⟨putB_length _ _ _ _, rfl⟩
    · exact ⟨rfl, rfl⟩
  · exact ⟨rfl, rfl⟩
theorem SpS.ok_run {S : SpS} (h : S.ok) (a n : Int) (b : Bool) (wrong : Int) : (S.run a n b wrong).1.ok := by
  obtain ⟨h1, h2⟩ := S.run_len a n b wrong
  exact ⟨by rw [h1]; exact h.n1, by rw [h1]; exact h.n2, by rw [h1, h2]; exact h.f⟩

/-- Where the first run of so many free blocks begins: none, if there is none. -/
def findL (l : List Bool) (n : Nat) : Option Nat := (List.range (l.length + 1)).find? fun a => decide (a + n ≤ l.length) && allB l a n false
theorem find_range {p : Nat → Bool} {n a : Nat} (ha : a < n) (h : p a = true) (hb : ∀ b, b < a → p b = false) : (List.range n).find? p = some a := by
  rw [List.find?_eq_some_iff_getElem]
  exact ⟨h, a, by simpa using ha, by simp, fun j hj => by simp [hb j hj]⟩
theorem findL_some {l : List Bool} {n a : Nat} (h1 : a + n ≤ l.length) (h2 : allB l a n false = true) (h3 : ∀ b, b < a → allB l b n false = false) : findL l n = some a :=
  find_range (by omega) (by rw [h2, decide_eq_true h1]; rfl) fun b hb => by rw [h3 b hb, Bool.and_false]
theorem findL_none {l : List Bool} {n : Nat} (h : ∀ a, a + n ≤ l.length → allB l a n false = false) : findL l n = none := by
  unfold findL
  rw [List.find?_eq_none]
  intro a _
  by_cases e : a + n ≤ l.length
  · rw [h a e, Bool.and_false]; exact Bool.false_ne_true
  · rw [decide_eq_false e]; exact Bool.false_ne_true
theorem findL_spec {l : List Bool} {n a : Nat} (h : findL l n = some a) : a + n ≤ l.length ∧ allB l a n false = true ∧ ∀ b, b < a → allB l b n false = false := by
  unfold findL at h
  rw [List.find?_eq_some_iff_getElem] at h
  obtain ⟨h1, i, hi, e, h2⟩ := h
  simp only [List.getElem_range] at e
  subst e
  rw [Bool.and_eq_true, decide_eq_true_eq] at h1
  refine ⟨h1.1, h1.2, fun b hb => ?_⟩
  have := h2 b hb
  simp only [List.getElem_range, Bool.not_eq_true', Bool.and_eq_false_iff, decide_eq_false_iff_not] at this
  rcases this with this | this
  · have := h1.1; omega
  · exact this
theorem findL_not {l : List Bool} {n : Nat} (h : findL l n = none) : ∀ a, a + n ≤ l.length → allB l a n false = false := by
  intro a ha
  unfold findL at h
  rw [List.find?_eq_none] at h
  have := h a (by simp; omega)
  rw [decide_eq_true ha, Bool.true_and] at this
  simpa using this
/-- What taking the first run answers. -/
def SpS.take (S : SpS) (n : Int) : SpS × Int × Int :=
  if n < 1 then (S, 0, 1) else match findL S.l n.toNat with
    | none => (S, 0, 7)
    | some a => (⟨S.first, putB S.l a n.toNat true⟩, (a : Int), 0)
theorem SpS.take_low {S : SpS} {n : Int} (h : n < 1) : S.take n = (S, 0, 1) := by
  unfold SpS.take
  rw [if_pos h]
theorem SpS.take_none {S : SpS} {n : Nat} (h : 1 ≤ n) (e : findL S.l n = none) : S.take (n : Int) = (S, 0, 7) := by
  unfold SpS.take
  rw [if_neg (by omega), Int.toNat_natCast, e]
theorem SpS.take_some {S : SpS} {n a : Nat} (h : 1 ≤ n) (e : findL S.l n = some a) : S.take (n : Int) = (⟨S.first, putB S.l a n true⟩, (a : Int), 0) := by
  unfold SpS.take
  rw [if_neg (by omega), Int.toNat_natCast, e]
theorem SpS.take_len (S : SpS) (n : Int) : (S.take n).1.l.length = S.l.length ∧ (S.take n).1.first = S.first := by
  unfold SpS.take
  split
  · exact ⟨rfl, rfl⟩
  · split
    · exact ⟨rfl, rfl⟩
    · exact ⟨putB_length _ _ _ _, rfl⟩
theorem SpS.ok_take {S : SpS} (h : S.ok) (n : Int) : (S.take n).1.ok := by
  obtain ⟨h1, h2⟩ := S.take_len n
  exact ⟨by rw [h1]; exact h.n1, by rw [h1]; exact h.n2, by rw [h1, h2]; exact h.f⟩

/-- Behind k blocks of a look for n free ones: the last r are free, the one ahead of these is not; and no run was met. -/
structure Scan (l : List Bool) (n k r : Nat) : Prop where
  rk : r ≤ k
  rn : r < n
  fr : ∀ i, k - r ≤ i → i < k → l.getD i false = false
  st : r < k → l.getD (k - r - 1) false = true
  no : ∀ a, a + n ≤ k → allB l a n false = false
theorem Scan.zero (l : List Bool) {n : Nat} (h : 1 ≤ n) : Scan l n 0 0 := ⟨Nat.le_refl _, by omega, fun i _ hi => by omega, fun h => by omega, fun a ha => by omega⟩
theorem Scan.taken {l : List Bool} {n k r : Nat} (h : Scan l n k r) (e : l.getD k false = true) : Scan l n (k + 1) 0 := by
  have := h.rn
  refine ⟨by omega, by omega, fun i h1 h2 => by omega, fun _ => by simpa using e, fun a ha => ?_⟩
  by_cases hk : a + n ≤ k
  · exact h.no a hk
  · exact allB_false (i := n - 1) (by omega) (by rw [show a + (n - 1) = k from by omega, e]; rfl)
theorem Scan.free {l : List Bool} {n k r : Nat} (h : Scan l n k r) (e : l.getD k false = false) (hn : r + 1 ≠ n) : Scan l n (k + 1) (r + 1) := by
  have h1 := h.rn
  have h2 := h.rk
  refine ⟨by omega, by omega, fun i hi hj => ?_, fun hk => ?_, fun a ha => ?_⟩
  · by_cases ik : i = k
    · rw [ik]; exact e
    · exact h.fr i (by omega) (by omega)
  · rw [show k + 1 - (r + 1) - 1 = k - r - 1 from by omega]
    exact h.st (by omega)
  · by_cases hk : a + n ≤ k
    · exact h.no a hk
    · exact allB_false (i := k - r - 1 - a) (by omega) (by rw [show a + (k - r - 1 - a) = k - r - 1 from by omega, h.st (by omega)]; rfl)
theorem Scan.found {l : List Bool} {n k r : Nat} (h : Scan l n k r) (hk : k < l.length) (e : l.getD k false = false) (hn : r + 1 = n) : findL l n = some (k + 1 - n) := by
  have h1 := h.rn
  have h2 := h.rk
  refine findL_some (by omega) ((allB_iff _ _ _ _).2 fun i hi => ?_) fun b hb => h.no b (by omega)
  by_cases ik : k + 1 - n + i = k
  · rw [ik]; exact e
  · exact h.fr _ (by omega) (by omega)
theorem Scan.none {l : List Bool} {n r : Nat} (h : Scan l n l.length r) : findL l n = none := findL_none h.no

end Go.Proofs.Ytcmbkpdefbaakaa
