/-
  Plain mathematics of layer 10's second statement: a write at which the power goes. No condition; nothing of the program.
-/
import Derived.Test.YteilnckkmmgpcaaCelL
namespace Go.Proofs.Yteilnckkmmgpcaa
open Go.RowKit

/-- The power is there, and does not go. -/
def PowS.live (P : PowS) : Prop := P.fuse < 0 ∧ P.down = false
theorem live_ok {P : PowS} (h : P.live) : P.ok = true ∧ P.does = true ∧ P.next.live := by
  obtain ⟨n, f, d, g⟩ := P
  obtain ⟨h1, h2⟩ := h
  dsimp only at h1 h2
  subst h2
  refine ⟨?_, ?_, ?_⟩
  · unfold PowS.ok
    dsimp only
    rw [decide_eq_false (by omega)]
    rfl
  · unfold PowS.does
    dsimp only
    rw [decide_eq_false (by omega)]
    rfl
  · unfold PowS.next
    dsimp only
    rw [if_neg (by simp), if_pos h1]
    exact ⟨h1, rfl⟩
theorem live_write {C : CelS} (h : C.p.live) (at_ : Int) (b : List UInt8) : (C.write at_ b).1.p.live := by
  obtain ⟨h1, h2, h3⟩ := live_ok h
  unfold CelS.write
  split
  · exact h
  · split
    · exact h
    · show (C.wrote at_ b).p.live
      unfold CelS.wrote
      rw [if_pos h2]
      exact h3
theorem fitK_take {b : List UInt8} (h : b.length ≤ 1024) : (fitK b).take b.length = b := by
  rw [fitK_eq h, List.take_left']
  rfl
theorem read_eq {C : CelS} {k : Nat} (hk : k < 4) (hd : C.p.down = false) : C.read (k : Int) = (C.l.getD k [], 0) := by
  unfold CelS.read
  rw [if_neg (by omega), if_neg (by rw [hd]; simp), Int.toNat_natCast]
/-- A write, a fuse at the next step, another write, the power there again. -/
theorem whole10 {C : CelS} {m : Nat} (hf : C.fit m) (hl : C.p.live) {k j : Nat} (hk : k < 4) (hj : j < 4) (hkj : k ≠ j) {a b : List UInt8} (ha : a.length ≤ 1024) (hb : b.length ≤ 1024) (d : Bool) :
    let C1 := (C.write (k : Int) a).1
    let C2 : CelS := { C1 with p := C1.p.set 0 d }
    let C3 := (C2.write (k : Int) b).1
    let C4 : CelS := { C3 with p := C3.p.back }
    (C.write (k : Int) a).2 = 0 ∧ (C2.write (k : Int) b).2 = 5 ∧ (C4.read (k : Int)).2 = 0 ∧ (C4.read (j : Int)).2 = 0 ∧ (C4.read (k : Int)).1 = fitK (if d then b else a) ∧ (C1.read (j : Int)).1 = (C4.read (j : Int)).1 := by
  obtain ⟨h1, h2, h3⟩ := live_ok hl
  have hfl := hf.l
  have e1 : C.write (k : Int) a = (⟨C.p.next, C.l.set k (fitK a), C.writes + 1⟩, 0) := by
    unfold CelS.write CelS.wrote
    rw [if_neg (by omega), if_neg (by omega), if_pos h2, if_pos h1]
    rfl
  dsimp only
  rw [e1]
  dsimp only
  obtain ⟨P1, hP1⟩ : ∃ P1, P1 = C.p.next := ⟨_, rfl⟩
  rw [← hP1] at h3 ⊢
  have hok : (P1.set 0 d).ok = false := by
    unfold PowS.set PowS.ok
    rw [if_neg (by omega)]
    simp
  have hdo : (P1.set 0 d).does = d := by
    unfold PowS.set PowS.does
    rw [if_neg (by omega)]
    simp [h3.2]
  have e2 : (CelS.write ⟨P1.set 0 d, C.l.set k (fitK a), C.writes + 1⟩ (k : Int) b).2 = 5 := by
    unfold CelS.write
    rw [if_neg (by omega), if_neg (by omega), if_neg (by rw [hok]; simp)]
  have e3 : (CelS.write ⟨P1.set 0 d, C.l.set k (fitK a), C.writes + 1⟩ (k : Int) b).1 = CelS.wrote ⟨P1.set 0 d, C.l.set k (fitK a), C.writes + 1⟩ (k : Int) b := by
    unfold CelS.write
    rw [if_neg (by omega), if_neg (by omega)]
  refine ⟨rfl, e2, ?_⟩
  rw [e3]
  rw [read_eq (C := ⟨P1, C.l.set k (fitK a), C.writes + 1⟩) hj h3.2]
  unfold CelS.wrote
  dsimp only
  rw [hdo, Int.toNat_natCast]
  cases d with
  | true =>
    rw [if_pos rfl]
    dsimp only
    rw [read_eq hk (by rfl), read_eq hj (by rfl)]
    refine ⟨rfl, rfl, ?_, ?_⟩
    · show (((C.l.set k (fitK a)).set k (fitK b)).getD k []) = fitK b
      rw [List.getD_eq_getElem?_getD, List.getElem?_set_self (by rw [List.length_set]; omega)]
      rfl
    · show ((C.l.set k (fitK a)).getD j []) = (((C.l.set k (fitK a)).set k (fitK b)).getD j [])
      rw [List.getD_eq_getElem?_getD, List.getD_eq_getElem?_getD, List.getElem?_set_ne hkj, List.getElem?_set_ne hkj, List.getElem?_set_ne hkj]
  | false =>
    rw [if_neg (by simp)]
    dsimp only
    rw [read_eq hk (by rfl), read_eq hj (by rfl)]
    refine ⟨rfl, rfl, ?_, rfl⟩
    show ((C.l.set k (fitK a)).getD k []) = fitK a
    rw [List.getD_eq_getElem?_getD, List.getElem?_set_self (by omega)]
    rfl

end Go.Proofs.Yteilnckkmmgpcaa
