/-
  Plain facts of SpaceApart: who has which block, held against which are taken; and a row of numbers in memory. No condition; no statement of the seat is proved here.
-/
import Derived.Test.YtcmbkpdefbaakaaSpaV
import Derived.Test.YtcmbkpdefbaakaaMkB
import Derived.Test.YtcmbkpdefbaakaaSpaX
namespace Go.Proofs.Ytcmbkpdefbaakaa
open Go.RowKit

/-- A byte as a number. -/
theorem bt_nat (l : List UInt8) (i : Nat) : ∃ y : Nat, y ≤ 255 ∧ bt l i = (y : Int) := ⟨(l.getD i 0).toNat, by have := (l.getD i 0).toNat_lt; omega, rfl⟩
theorem mod9 (y : Nat) : ∃ J m : Nat, (y : Int).tmod 9 = (J : Int) ∧ 1 + (J : Int) = (m : Int) ∧ 1 ≤ m ∧ m ≤ 9 ∧ J ≤ 9 := ⟨y % 9, 1 + y % 9, tmodN y 9, by omega, by omega, by omega, by omega⟩
theorem mod3 (y : Nat) : ∃ Z : Nat, (y : Int).tmod 3 = (Z : Int) ∧ Z ≤ 2 := ⟨y % 3, tmodN y 3, by omega⟩
def iz (O : List Int) : List Value := O.map (.int .i64)
theorem iz_length (O : List Int) : (iz O).length = O.length := by simp [iz]
theorem iz_get {O : List Int} {i : Nat} (h : i < O.length) : (iz O)[i]? = some (.int .i64 (O.getD i 0)) := by simp [iz, h]
theorem iz_set (O : List Int) (k : Nat) (v : Int) : (iz O).set k (.int .i64 v) = iz (O.set k v) := by simp [iz, List.map_set]
theorem infoI : (Try.prog.info? 3).map (fun i => (i.zero, i.size, i.bytes)) = some (some (.int .i64 0), 1, 8) := by kernel_rfl
theorem iz_zero (n : Nat) : List.replicate (n * 1) (Value.int .i64 0) = iz (List.replicate n 0) := by simp [iz]
theorem Blk.atI {w : World} {g : Nat} {O : List Int} {t : TypeId} (h : Blk w g (iz O) t) {k : Nat} (hk : k < O.length) : w.cell? ⟨g, k, none⟩ = some (.int .i64 (O.getD k 0)) := by rw [h.cell, iz_get hk]
theorem Blk.setI {w : World} {g : Nat} {O : List Int} {t : TypeId} (h : Blk w g (iz O) t) (k : Nat) (v : Int) : Blk (w.setCell ⟨g, k, none⟩ (.int .i64 v)) g (iz (O.set k v)) t := by
  have := h.setC k (.int .i64 v)
  rw [iz_set] at this
  exact this
theorem setI_getD (O : List Int) (k i : Nat) (v : Int) (hi : i < O.length) : (O.set k v).getD i 0 = if k = i then v else O.getD i 0 := by
  rw [List.getD_eq_getElem?_getD, List.getElem?_set]
  split
  · rw [if_pos (by omega)]
    rfl
  · rw [List.getD_eq_getElem?_getD]

/-- O', as O, with v from a up to q. -/
structure PutI (O : List Int) (a q : Nat) (v : Int) (O' : List Int) : Prop where
  len : O'.length = O.length
  at_ : ∀ i, i < O.length → O'.getD i 0 = if a ≤ i ∧ i < q then v else O.getD i 0
theorem PutI.zero (O : List Int) (a : Nat) (v : Int) : PutI O a a v O := ⟨rfl, fun i _ => by rw [if_neg (by omega)]⟩
theorem PutI.step {O O' : List Int} {a q : Nat} {v : Int} (h : PutI O a q v O') (ha : a ≤ q) : PutI O a (q + 1) v (O'.set q v) := by
  refine ⟨by rw [List.length_set, h.len], fun i hi => ?_⟩
  rw [setI_getD _ _ _ _ (by rw [h.len]; exact hi), h.at_ i hi]
  by_cases e : q = i
  · rw [if_pos e, if_pos (by omega)]
  · rw [if_neg e]
    by_cases h : a ≤ i ∧ i < q
    · rw [if_pos h, if_pos (by omega)]
    · rw [if_neg h, if_neg (by omega)]

/-- Who has which block: somebody just if it is taken, and not for good. -/
structure Has15 (k : Nat) (S : SpS) (O : List Int) : Prop where
  lo : O.length = 60
  ls : S.l.length = 60
  fst : S.first = k
  good : S.good
  iff_ : ∀ j, j < 60 → (O.getD j 0 ≠ 0 ↔ (k ≤ j ∧ S.l.getD j false = true))
theorem Has15.new {k : Nat} (hk : k ≤ 60) : Has15 k (SpS.new 60 k) (List.replicate 60 0) := by
  refine ⟨by simp, SpS.new_len 60 k, rfl, SpS.good_new 60 k hk, fun j hj => ?_⟩
  rw [SpS.new_get _ _ hj, List.getD_eq_getElem?_getD, List.getElem?_replicate, if_pos hj]
  simp
theorem Has15.free {k : Nat} {S : SpS} {O : List Int} (h : Has15 k S O) {m a : Nat} (hf : findL S.l m = some a) {j : Nat} (h1 : a ≤ j) (h2 : j < a + m) : O.getD j 0 = 0 := by
  obtain ⟨e1, e2, _⟩ := findL_spec hf
  have hls := h.ls
  have := (allB_iff S.l a m false).1 e2 (j - a) (by omega)
  rw [show a + (j - a) = j from by omega] at this
  have hi := h.iff_ j (by omega)
  rw [this] at hi
  by_cases hz : O.getD j 0 = 0
  · exact hz
  · exact absurd (hi.1 hz).2 (by simp)
theorem Has15.took {k : Nat} {S : SpS} {O O' : List Int} (h : Has15 k S O) {m a : Nat} (hm : 1 ≤ m) (hf : findL S.l m = some a) {v : Int} (hv : v ≠ 0) (hp : PutI O a (a + m) v O') : Has15 k ⟨S.first, putB S.l a m true⟩ O' := by
  obtain ⟨e1, e2, _⟩ := findL_spec hf
  have hls := h.ls
  have hfa := SpS.good_find h.good hm e2
  have hfk := h.fst
  refine ⟨by rw [hp.len, h.lo], by show (putB _ _ _ _).length = _; rw [putB_length, hls], hfk, SpS.good_put h.good true hfa (by omega), fun j hj => ?_⟩
  show _ ↔ _ ∧ (putB S.l a m true).getD j false = true
  rw [hp.at_ j (by rw [h.lo]; exact hj), putB_get _ _ _ _ (by omega)]
  unfold putF
  by_cases hin : a ≤ j ∧ j < a + m
  · rw [if_pos hin, if_pos hin]
    exact ⟨fun _ => ⟨by omega, rfl⟩, fun _ => hv⟩
  · rw [if_neg hin, if_neg hin]
    exact h.iff_ j hj
theorem Has15.gave {k : Nat} {S : SpS} {O O' : List Int} (h : Has15 k S O) {m a : Nat} (ha : S.first ≤ a) (hp : PutI O a (a + m) 0 O') : Has15 k ⟨S.first, putB S.l a m false⟩ O' := by
  have hls := h.ls
  have hfk := h.fst
  by_cases hfl : S.first ≤ S.l.length
  · refine ⟨by rw [hp.len, h.lo], by show (putB _ _ _ _).length = _; rw [putB_length, hls], hfk, SpS.good_put h.good false ha hfl, fun j hj => ?_⟩
    show _ ↔ _ ∧ (putB S.l a m false).getD j false = true
    rw [hp.at_ j (by rw [h.lo]; exact hj), putB_get _ _ _ _ (by omega)]
    unfold putF
    by_cases hin : a ≤ j ∧ j < a + m
    · rw [if_pos hin, if_pos hin]
      exact ⟨fun h => absurd rfl h, fun h => by cases h.2⟩
    · rw [if_neg hin, if_neg hin]
      exact h.iff_ j hj
  · have h1 := h.good S.l.length (by omega)
    rw [List.getD_eq_getElem?_getD, List.getElem?_eq_none (Nat.le_refl _)] at h1
    cases h1
/-- What was just taken may be given. -/
theorem SpS.give_took {S : SpS} {m a : Nat} (hm : 1 ≤ m) (ha : S.first ≤ a) (hl : a + m ≤ S.l.length) : (SpS.mk S.first (putB S.l a m true)).give a m = (⟨S.first, putB (putB S.l a m true) a m false⟩, 0) := by
  unfold SpS.give
  rw [SpS.run_in ⟨by omega, by show (S.first : Int) ≤ _; omega, by show _ ≤ ((putB S.l a m true).length : Int) - _; rw [putB_length]; omega⟩]
  rw [show (!false) = true from rfl]
  have : allB (putB S.l a m true) a m true = true := (allB_iff _ _ _ _).2 fun i hi => by
    rw [putB_get _ _ _ _ (by omega)]
    unfold putF
    rw [if_pos (by omega)]
  show (if allB (putB S.l a m true) a m true = true then _ else _) = _
  rw [this, if_pos rfl]
theorem Has15.taken {k : Nat} {S : SpS} {O : List Int} (h : Has15 k S O) {j : Nat} (h1 : k ≤ j) (h2 : j < 60) : S.l.getD j false = (O.getD j 0 != 0) := by
  have hi := h.iff_ j h2
  cases e : S.l.getD j false with
  | true => rw [e] at hi; have := hi.2 ⟨h1, rfl⟩; simpa using this
  | false =>
    rw [e] at hi
    by_cases hz : O.getD j 0 = 0
    · rw [hz]; rfl
    · exact absurd (hi.1 hz).2 (by simp)
/-- None of those that are taken for good is free. -/
theorem freeN_good {l : List Bool} {k : Nat} (h : ∀ i, i < k → l.getD i false = true) : freeN l k = 0 := by
  induction k with
  | zero => rfl
  | succ k ih =>
    unfold freeN
    rw [ih (fun i hi => h i (by omega)), h k (by omega), if_pos rfl]

end Go.Proofs.Ytcmbkpdefbaakaa
