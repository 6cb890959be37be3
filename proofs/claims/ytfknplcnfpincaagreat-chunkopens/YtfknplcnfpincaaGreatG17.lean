/-
  8 texts in one. No statement of the seat is proved here.
-/
import Derived.Test.YtfknplcnfpincaaGreatG16

/-
  Plain mathematics of layer 13: how many pieces a text has, which bytes a piece has, what stands beside it, and what sealing all of them, one behind the other, makes. No condition; nothing of the program.
-/
namespace Go.Proofs.YtfknplcnfpincaaGreat
open Go.RowKit
set_option linter.unusedVariables false

/-- How many pieces a text of so many bytes has. -/
def cnt (n : Nat) : Nat := if n = 0 then 1 else (n + 495) / 496
theorem cnt_pos (n : Nat) : 1 ≤ cnt n := by unfold cnt; split <;> omega
theorem cnt_cover (n : Nat) : n ≤ 496 * cnt n := by unfold cnt; split <;> omega
theorem cnt_last (n : Nat) : 496 * (cnt n - 1) ≤ n := by unfold cnt; split <;> omega
theorem cnt_below {n i : Nat} (h : i < cnt n) : 496 * i ≤ n := by unfold cnt at h; split at h <;> omega
theorem cnt_mid {n i : Nat} (h : i + 1 < cnt n) : 496 * i + 496 < n := by unfold cnt at h; split at h <;> omega
theorem cnt_le {n : Nat} (h : n < 1600) : cnt n ≤ 4 := by unfold cnt; split <;> omega
/-- A piece. -/
def piece (t : List UInt8) (i : Nat) : List UInt8 := (t.drop (496 * i)).take 496
/-- How many bytes it has. -/
def plen (n i : Nat) : Nat := min 496 (n - 496 * i)
theorem piece_length (t : List UInt8) (i : Nat) : (piece t i).length = plen t.length i := by simp [piece, plen]
theorem plen_le (n i : Nat) : plen n i ≤ 496 := by unfold plen; omega
/-- What stands beside it. -/
def bes (what : List UInt8) (i : Nat) (last : Bool) : List UInt8 := packL [[99, 104, 117, 110, 107], what, putL i 4, [if last then 1 else 0]]
theorem bes_length (what : List UInt8) (i : Nat) (last : Bool) : (bes what i last).length = what.length + 26 := by
  unfold bes
  rw [packL_length]
  simp [tot, putL_length]
  omega
theorem bes_inj {what what' : List UInt8} {i i' : Nat} {last last' : Bool} (h1 : what.length ≤ 60) (h2 : what'.length ≤ 60) (h3 : i ≤ 1000000) (h4 : i' ≤ 1000000) (h : bes what i last = bes what' i' last') : what = what' ∧ i = i' ∧ last = last' := by
  have hh := pack_inj _ _ (by simp [tot, putL_length]; omega) (by simp [tot, putL_length]; omega) h
  simp only [List.cons.injEq, and_true, true_and] at hh
  obtain ⟨e1, e2, e3⟩ := hh
  refine ⟨e1, put4_inj h3 h4 e2, ?_⟩
  cases last <;> cases last' <;> simp at e3 ⊢
theorem non_inj {i j : Nat} (hi : i ≤ 1000000) (hj : j ≤ 1000000) (h : nonL 0 i = nonL 0 j) : i = j := by
  unfold nonL at h
  exact put4_inj hi hj (List.append_cancel_left h)
/-- Noughts behind, up to a block. -/
def pad (b : List UInt8) : List UInt8 := b ++ List.replicate (512 - b.length) 0
theorem pad_length {b : List UInt8} (h : b.length ≤ 512) : (pad b).length = 512 := by simp [pad]; omega
theorem pad_take {b : List UInt8} : (pad b).take b.length = b := by simp [pad]
theorem pad_drop {b : List UInt8} : (pad b).drop b.length = List.replicate (512 - b.length) 0 := by simp [pad]
/-- The key of a number. -/
def keyC (n : Nat) : List UInt8 := List.replicate 31 0 ++ [UInt8.ofNat n]
theorem keyC_length (n : Nat) : (keyC n).length = 32 := by simp [keyC]
theorem keyC_inj {n m : Nat} (hn : n ≤ 255) (hm : m ≤ 255) : keyC n = keyC m ↔ n = m := by
  constructor
  · intro h
    have := List.append_cancel_left h
    simp only [List.cons.injEq, and_true] at this
    have := congrArg UInt8.toNat this
    simp only [UInt8.toNat_ofNat'] at this
    omega
  · intro h
    rw [h]
/-- A long text. -/
def longB (b : List UInt8) (i : Nat) : UInt8 := if i < b.length then b.getD i 0 else UInt8.ofNat (i / 7)
def longL (b : List UInt8) (n : Nat) : List UInt8 := (List.range n).map (longB b)
theorem longL_length (b : List UInt8) (n : Nat) : (longL b n).length = n := by simp [longL]
theorem longL_succ (b : List UInt8) (n : Nat) : longL b (n + 1) = longL b n ++ [longB b n] := by simp [longL, List.range_succ]

/-- A sealer behind the first i pieces of a text of c pieces. -/
def chS (S : SeaS) (k what t : List UInt8) (c : Nat) : Nat → SeaS
  | 0 => S
  | i + 1 => (chS S k what t c i).seal k (nonL 0 i) (bes what i (decide (i + 1 = c))) (piece t i)
/-- What comes of piece i. -/
def chM (S : SeaS) (k what t : List UInt8) (c i : Nat) : List UInt8 := (chS S k what t c i).made k (nonL 0 i) (bes what i (decide (i + 1 = c))) (piece t i)
/-- The first i blocks. -/
def chB (S : SeaS) (k what t : List UInt8) (c : Nat) (i : Nat) : List (List UInt8) := (List.range i).map fun j => pad (chM S k what t c j)
theorem chB_length (S : SeaS) (k what t : List UInt8) (c i : Nat) : (chB S k what t c i).length = i := by simp [chB]
theorem chB_succ (S : SeaS) (k what t : List UInt8) (c i : Nat) : chB S k what t c (i + 1) = chB S k what t c i ++ [pad (chM S k what t c i)] := by simp [chB, List.range_succ]
theorem chB_at {S : SeaS} {k what t : List UInt8} {c i j : Nat} (h : j < i) : (chB S k what t c i)[j]? = some (pad (chM S k what t c j)) := by simp [chB, h]
theorem chB_getD {S : SeaS} {k what t : List UInt8} {c i j : Nat} (h : j < i) : (chB S k what t c i).getD j [] = pad (chM S k what t c j) := by rw [List.getD_eq_getElem?_getD, chB_at h]; rfl
theorem chS_ideal (S : SeaS) (k what t : List UInt8) (c i : Nat) : (chS S k what t c i).ideal = S.ideal := by
  induction i with
  | zero => rfl
  | succ i ih => exact ih
theorem chS_len (S : SeaS) (k what t : List UInt8) (c i : Nat) : (chS S k what t c i).book.length = S.book.length + i := by
  induction i with
  | zero => rfl
  | succ i ih =>
    show (SeaS.seal _ _ _ _ _).book.length = _
    rw [SeaS.seal_len, ih]
    omega
theorem chS_count (S : SeaS) (k what t : List UInt8) (c i : Nat) : (chS S k what t c i).count ≤ S.count + i := by
  induction i with
  | zero => exact Nat.le_refl _
  | succ i ih =>
    have := SeaS.seal_count (chS S k what t c i) k (nonL 0 i) (bes what i (decide (i + 1 = c))) (piece t i)
    show (SeaS.seal _ _ _ _ _).count ≤ _
    omega
theorem chS_countI {S : SeaS} (hi : S.ideal = true) (k what t : List UInt8) (c i : Nat) : (chS S k what t c i).count = S.count + i := by
  induction i with
  | zero => rfl
  | succ i ih =>
    show SeaS.next _ = _
    unfold SeaS.next
    rw [chS_ideal, if_pos hi, ih]
    omega
theorem chS_ok {S : SeaS} (h : S.Ok) (k what t : List UInt8) (c i : Nat) (hb : S.count + S.book.length + 2 * i + 2 ≤ 1000000) : (chS S k what t c i).Ok := by
  induction i with
  | zero => exact h
  | succ i ih =>
    have h1 := chS_len S k what t c i
    have h2 := chS_count S k what t c i
    exact (ih (by omega)).seal (by omega) _ _ _ _
theorem chM_length {S : SeaS} {k : List UInt8} (hk : k.length = 32) (what t : List UInt8) (c i : Nat) : (chM S k what t c i).length = plen t.length i + 16 := by
  unfold chM
  rw [SeaS.made_len hk (nonL_length 0 i), piece_length]
theorem chM_le {S : SeaS} {k : List UInt8} (hk : k.length = 32) (what t : List UInt8) (c i : Nat) : (chM S k what t c i).length ≤ 512 := by
  rw [chM_length hk]
  have := plen_le t.length i
  omega
/-- Each piece opens as it was, whatever was sealed since. -/
theorem chS_opens {S : SeaS} (h : S.Ok) {k : List UInt8} (hk : k.length = 32) (what t : List UInt8) (c : Nat) {i j : Nat} (hij : i < j) (hb : S.count + S.book.length + 2 * j + 2 ≤ 1000000) : (chS S k what t c j).opens k (nonL 0 i) (bes what i (decide (i + 1 = c))) (chM S k what t c i) = some (piece t i) := by
  induction j with
  | zero => omega
  | succ j ih =>
    by_cases e : i = j
    · subst e
      exact SeaS.opens_own (chS_ok h k what t c i (by omega)) hk (nonL_length 0 i) _ _
    · exact SeaS.opens_stays (ih (by omega) (by omega)) _ _ _ _
/-- What stands in the book, ideally: just the pieces. -/
theorem chS_known {S : SeaS} (hS : S.book = []) (k what t : List UInt8) (c i : Nat) (k' n' b' s' : List UInt8) : ((chS S k what t c i).known k' n' b' s').isSome = true ↔ ∃ j, j < i ∧ k = k' ∧ nonL 0 j = n' ∧ bes what j (decide (j + 1 = c)) = b' ∧ chM S k what t c j = s' := by
  induction i with
  | zero =>
    constructor
    · intro h
      simp [chS, SeaS.known, hS] at h
    · rintro ⟨j, hj, _⟩
      omega
  | succ i ih =>
    show ((SeaS.seal _ _ _ _ _).known k' n' b' s').isSome = true ↔ _
    rw [SeaS.known_seal]
    cases hk : (chS S k what t c i).known k' n' b' s' with
    | some e =>
      rw [hk] at ih
      obtain ⟨j, hj, hh⟩ := ih.1 rfl
      exact ⟨fun _ => ⟨j, by omega, hh⟩, fun _ => rfl⟩
    | none =>
      rw [hk] at ih
      dsimp only
      constructor
      · intro h
        by_cases hc : k = k' ∧ nonL 0 i = n' ∧ bes what i (decide (i + 1 = c)) = b' ∧ (chS S k what t c i).made k (nonL 0 i) (bes what i (decide (i + 1 = c))) (piece t i) = s'
        · exact ⟨i, by omega, hc⟩
        · rw [if_neg hc] at h
          cases h
      · rintro ⟨j, hj, hh⟩
        by_cases e : j = i
        · subst e
          unfold chM at hh
          rw [if_pos hh]
          rfl
        · have := ih.2 ⟨j, by omega, hh⟩
          cases this
theorem chM_ideal {S : SeaS} (hi : S.ideal = true) (k what t : List UInt8) (c i : Nat) : chM S k what t c i = noiseL (S.count + i + 1) (plen t.length i + 16) := by
  unfold chM SeaS.made
  rw [chS_ideal, if_pos hi, chS_countI hi, piece_length]
theorem noise_first {n m a b : Nat} (hn : n < 1000000) (hm : m < 1000000) (h : (noiseL n (a + 16)).take 16 = (noiseL m (b + 16)).take 16) : n = m := by
  rw [Nat.add_comm a, Nat.add_comm b, noise_take, noise_take] at h
  exact (noise_inj (by omega) (by omega) (by omega)).1 h
/-- Ideally, a piece opens in its own place alone. -/
theorem chS_whole {S : SeaS} (hS : S.book = []) (h0 : S.count = 0) (hi : S.ideal = true) {k k' what what' t : List UInt8} {m p q : Nat} (hw : what.length ≤ 60) (hw' : what'.length ≤ 60) (hq : q < cnt t.length) (hc : cnt t.length ≤ 1000) (hp : p ≤ 1000) (hm9 : m ≤ 496) (last' : Bool) :
    ((chS S k what t (cnt t.length) (cnt t.length)).known k' (nonL 0 p) (bes what' p last') ((pad (chM S k what t (cnt t.length) q)).take (m + 16))).isSome = true ↔ k = k' ∧ q = p ∧ plen t.length q = m ∧ decide (q + 1 = cnt t.length) = last' ∧ what = what' := by
  rw [chS_known hS]
  have hM : ∀ j, (chM S k what t (cnt t.length) j) = noiseL (j + 1) (plen t.length j + 16) := fun j => by rw [chM_ideal hi, h0, Nat.zero_add]
  constructor
  · rintro ⟨j, hj, hk, hn, hb, hs⟩
    have hjp := non_inj (by omega) (by omega) hn
    subst hjp
    obtain ⟨e1, _, e3⟩ := bes_inj hw hw' (by omega) (by omega) hb
    have ht : (chM S k what t (cnt t.length) j).take 16 = (chM S k what t (cnt t.length) q).take 16 := by
      rw [hs, List.take_take, show min 16 (m + 16) = 16 from by omega]
      unfold pad
      rw [List.take_append_of_le_length]
      rw [hM, noiseL_length]
      omega
    rw [hM, hM] at ht
    have hjq := noise_first (by omega) (by omega) ht
    have hjq : j = q := by omega
    subst hjq
    have hl := congrArg List.length hs
    rw [List.length_take, pad_length (by rw [hM, noiseL_length]; have := plen_le t.length j; omega), hM, noiseL_length] at hl
    have hm : plen t.length j = m := by have := plen_le t.length j; omega
    exact ⟨hk, rfl, hm, e3, e1⟩
  · rintro ⟨hk, rfl, hm, he, hw⟩
    refine ⟨q, hq, hk, rfl, by rw [he, hw], ?_⟩
    have hl : (chM S k what t (cnt t.length) q).length = m + 16 := by rw [hM, noiseL_length, hm]
    rw [← hl, pad_take]

end Go.Proofs.YtfknplcnfpincaaGreat

/-
  Bytes laid for a call, and bytes that lie where neither of two sealers does. No condition; no statement of the seat is proved here.
-/
namespace Go.Proofs.YtfknplcnfpincaaGreat
open Go.RowKit
set_option linter.unusedVariables false

theorem BA.mark1 {A : Nat → Prop} {w : World} (l : List UInt8) (arr : Array Value) (f : Nat × Nat) (h : arr.toList = cs l) (hm : l.length ≤ 1000000) (hA : ∀ j, w.heap.size ≤ j → A j) : BA A (w.alloc (.cells arr 5 f)) (some ⟨w.heap.size, 0, none⟩) l.length l.length l :=
  ⟨Bs.marked w l arr f h hm, fun _ => ⟨_, rfl, hA _ (Nat.le_refl _), by simp⟩⟩
theorem BA.mark2 {A : Nat → Prop} {w : World} (o : Obj) (l : List UInt8) (arr : Array Value) (f : Nat × Nat) (h : arr.toList = cs l) (hm : l.length ≤ 1000000) (hA : ∀ j, w.heap.size ≤ j → A j) : BA A ((w.alloc o).alloc (.cells arr 5 f)) (some ⟨w.heap.size + 1, 0, none⟩) l.length l.length l := by
  have := BA.mark1 (A := A) (w := w.alloc o) l arr f h hm (fun j hj => hA j (by simp at hj; omega))
  rw [show (w.alloc o).heap.size = w.heap.size + 1 from by simp] at this
  exact this
theorem Own.both {A : Nat → Prop} {w : World} {base : Nat} {p : Option Addr} {m q : Nat} {l : List UInt8} (h : Own w base (.slice p m q) l) (hA : ∀ j, base ≤ j → A j) : BA A w p m q l := h.ba.mono' fun j _ hj => hA j hj
/-- Where neither of two sealers lies. -/
def AA (U1 U2 : Nat → Prop) : Nat → Prop := fun j => ¬ U1 j ∧ ¬ U2 j
theorem TwoS.aa {w0 w : World} {r1 r2 : Nat} {U1 U2 : Nat → Prop} {S1 S2 : SeaS} {M1 M2 : SeaM} (h : TwoS w0 w r1 U1 S1 M1 r2 U2 S2 M2) : ∀ j, w.heap.size ≤ j → AA U1 U2 j := fun j hj => ⟨fun hu => by have := h.a.se.lt j hu; omega, fun hu => by have := h.b.se.lt j hu; omega⟩
theorem BA.n1 {U1 U2 : Nat → Prop} {w : World} {p : Option Addr} {m q : Nat} {l : List UInt8} (h : BA (AA U1 U2) w p m q l) : BA (fun j => ¬ U1 j) w p m q l := h.mono' fun _ _ h => h.1
theorem BA.n2 {U1 U2 : Nat → Prop} {w : World} {p : Option Addr} {m q : Nat} {l : List UInt8} (h : BA (AA U1 U2) w p m q l) : BA (fun j => ¬ U2 j) w p m q l := h.mono' fun _ _ h => h.2
theorem BA.k1 {U1 U2 : Nat → Prop} {w w' : World} {p : Option Addr} {m q : Nat} {l : List UInt8} (h : BA (AA U1 U2) w p m q l) (k : Kp U1 w w') : BA (AA U1 U2) w' p m q l := h.kp k fun j hj => hj.1
theorem BA.k2 {U1 U2 : Nat → Prop} {w w' : World} {p : Option Addr} {m q : Nat} {l : List UInt8} (h : BA (AA U1 U2) w p m q l) (k : Kp U2 w w') : BA (AA U1 U2) w' p m q l := h.kp k fun j hj => hj.2
theorem Grows.ofDrew {w u : World} (h : Grows w.drew u) : Below w.heap.size w u := (Below.refl _ w).drew.trans h

end Go.Proofs.YtfknplcnfpincaaGreat

/-
  Contracts of layer 13's program: Count, Part, Cover, nonce, beside, filled, noughts. Conditions: sizes of at most 2^21 bytes; what a text is of at most 60.
-/
namespace Go.Proofs.YtfknplcnfpincaaGreat
open Go.RowKit
set_option linter.unusedVariables false

theorem tdiv_nat (n d : Nat) : (n : Int).tdiv (d : Int) = ((n / d : Nat) : Int) := by
  rw [Int.tdiv_eq_ediv_of_nonneg (by omega)]
  exact (Int.natCast_ediv n d).symm
theorem tmod_nat (n d : Nat) : (n : Int).tmod (d : Int) = ((n % d : Nat) : Int) := by
  rw [Int.tmod_eq_emod_of_nonneg (by omega)]
  exact (Int.natCast_emod n d).symm

set_option maxHeartbeats 400000 in
theorem oCount (w : World) (n : Nat) (hn : n ≤ 4000000) : Calls Tryz.prog 16 #[.int .i64 (n : Int)] w fun e w' => e = .returned (.int .i64 (cnt n : Int)) ∧ w = w' := by
  have h0 : ¬ (n : Int) < 0 := by omega
  obtain ⟨q, hq⟩ : ∃ q, q = n / 496 := ⟨_, rfl⟩
  obtain ⟨r, hr⟩ : ∃ r, r = n % 496 := ⟨_, rfl⟩
  have h1 : (n : Int).tdiv 496 = (q : Int) := by rw [hq]; exact tdiv_nat n 496
  have h2 : (n : Int).tmod 496 = (r : Int) := by rw [hr]; exact tmod_nat n 496
  have hql : (q : Int) ≤ 10000 := by omega
  have HC : Hid (cnt n = if q = 0 ∨ 0 < r then q + 1 else q) := by
    show _ = _
    unfold cnt
    by_cases h : n = 0
    · rw [if_pos h, if_pos (by left; omega)]
      omega
    · rw [if_neg h]
      by_cases hc : q = 0 ∨ 0 < r
      · rw [if_pos hc]
        omega
      · rw [if_neg hc]
        omega
  clear hq hr
  by_cases hq0 : q = 0
  · subst hq0
    rw [if_pos (Or.inl rfl)] at HC
    go_enter Tryz.func16, Tryz.ntmps16
    go_wp2_with fail
    go_ret
    exact ⟨ret_int (by rw [HC.out]; omega), rfl⟩
  · have hq1 : ¬ (q : Int) = 0 := by omega
    by_cases hr0 : 0 < r
    · have hr1 : (0 : Int) < (r : Int) := by omega
      rw [if_pos (Or.inr hr0)] at HC
      go_enter Tryz.func16, Tryz.ntmps16
      go_wp2_with fail
      go_ret
      exact ⟨ret_int (by rw [HC.out]; omega), rfl⟩
    · have hr1 : ¬ (0 : Int) < (r : Int) := by omega
      rw [if_neg (by omega)] at HC
      go_enter Tryz.func16, Tryz.ntmps16
      go_wp2_with fail
      go_ret
      exact ⟨ret_int (by rw [HC.out]), rfl⟩

/-- From which byte, up to which one. -/
def lo (n i : Nat) : Nat := min (496 * i) n
def hi (n i : Nat) : Nat := min (496 * i + 496) n
theorem lo_le (n i : Nat) : lo n i ≤ hi n i := by unfold lo hi; omega
theorem hi_le (n i : Nat) : hi n i ≤ n := by unfold hi; omega
theorem lo_hi (n i : Nat) : hi n i - lo n i = plen n i := by unfold lo hi plen; omega
theorem piece_cut (t : List UInt8) (i : Nat) : (t.drop (lo t.length i)).take (hi t.length i - lo t.length i) = piece t i := by
  unfold piece
  by_cases h : 496 * i ≤ t.length
  · have e1 : lo t.length i = 496 * i := by unfold lo; omega
    rw [e1]
    apply List.ext_getElem?
    intro j
    rw [List.getElem?_take, List.getElem?_take]
    by_cases hj : j < 496
    · rw [if_pos hj]
      by_cases hk : j < hi t.length i - 496 * i
      · rw [if_pos hk]
      · rw [if_neg hk, List.getElem?_eq_none]
        rw [List.length_drop]
        unfold hi at hk
        omega
    · rw [if_neg hj, if_neg]
      unfold hi
      omega
  · have e1 : lo t.length i = t.length := by unfold lo; omega
    rw [e1, List.drop_of_length_le (Nat.le_refl _), List.drop_of_length_le (by omega)]
    simp
set_option maxHeartbeats 400000 in
theorem oPart (w : World) (n i : Nat) (hn : n ≤ 4000000) (hi' : i ≤ 4000000) : Calls Tryz.prog 15 #[.int .i64 (n : Int), .int .i64 (i : Int)] w fun e w' => e = .returned (.tuple #[.int .i64 (lo n i : Int), .int .i64 (hi n i : Int)]) ∧ w = w' := by
  have h0 : ¬ (n : Int) < 0 := by omega
  have h1 : ¬ (i : Int) < 0 := by omega
  obtain ⟨q, hq⟩ : ∃ q, q = n / 496 := ⟨_, rfl⟩
  have h2 : (n : Int).tdiv 496 = (q : Int) := by rw [hq]; exact tdiv_nat n 496
  have hql : q ≤ 10000 := by omega
  by_cases hc : q < i
  · have h3 : (q : Int) < (i : Int) := by omega
    have HA : Hid (lo n i = n ∧ hi n i = n) := ⟨by unfold lo; omega, by unfold hi; omega⟩
    clear hq
    go_enter Tryz.func15, Tryz.ntmps15
    go_wp2_with fail
    go_ret2
    exact ⟨by rw [HA.out.1, HA.out.2]; rfl, rfl⟩
  · have h3 : ¬ (q : Int) < (i : Int) := by omega
    obtain ⟨a, ha⟩ : ∃ a, a = 496 * i := ⟨_, rfl⟩
    have hm : (i : Int) * 496 = (a : Int) := by omega
    have han : a ≤ n := by omega
    obtain ⟨d, hd⟩ : ∃ d, n = a + d := ⟨n - a, by omega⟩
    have hs : (n : Int) - (a : Int) = (d : Int) := by omega
    have hdl : d ≤ 4000000 := by omega
    have HA : Hid (lo n i = a) := by show _ = _; unfold lo; omega
    by_cases hdd : d < 496
    · have h4 : (d : Int) < 496 := by omega
      have HB : Hid (hi n i = a + d) := by show _ = _; unfold hi; omega
      have hal : a ≤ 8000000 := by omega
      have hsum : (a : Int) + (d : Int) = ((a + d : Nat) : Int) := by omega
      obtain ⟨s, hs9⟩ : ∃ s, s = a + d := ⟨_, rfl⟩
      have hsl : s ≤ 8000000 := by omega
      rw [← hs9] at hsum HB
      clear hs9
      clear hq ha hd
      go_enter Tryz.func15, Tryz.ntmps15
      go_wp2_with fail
      go_ret2
      exact ⟨by rw [HA.out, HB.out]; rfl, rfl⟩
    · have h4 : ¬ (d : Int) < 496 := by omega
      have HB : Hid (hi n i = a + 496) := by show _ = _; unfold hi; omega
      have hal : a ≤ 8000000 := by omega
      have hsum : (a : Int) + 496 = ((a + 496 : Nat) : Int) := by omega
      obtain ⟨s, hs9⟩ : ∃ s, s = a + 496 := ⟨_, rfl⟩
      have hsl : s ≤ 8000000 := by omega
      rw [← hs9] at hsum HB
      clear hs9
      clear hq ha hd
      go_enter Tryz.func15, Tryz.ntmps15
      go_wp2_with fail
      go_ret2
      exact ⟨by rw [HA.out, HB.out]; rfl, rfl⟩

/-- The first piece that has bytes from one up to another one, and how many do. -/
def cov0 (a : Nat) : Nat := a / 496
def covN (a b : Nat) : Nat := (b - 1) / 496 - a / 496 + 1
set_option maxHeartbeats 400000 in
theorem oCover (w : World) (n : Nat) (f t : Int) (hn : n ≤ 4000000) (f0 : -9223372036854775808 ≤ f) (f1 : f ≤ 9223372036854775807) (t0 : -9223372036854775808 ≤ t) (t1 : t ≤ 9223372036854775807) :
    (¬ (0 ≤ f ∧ f < t ∧ t ≤ n) → Calls Tryz.prog 14 #[.int .i64 (n : Int), .int .i64 f, .int .i64 t] w fun e w' => e = .returned (.tuple #[.int .i64 0, .int .i64 0]) ∧ w = w') ∧
    (∀ a b : Nat, f = a → t = b → a < b → b ≤ n → Calls Tryz.prog 14 #[.int .i64 (n : Int), .int .i64 f, .int .i64 t] w fun e w' => e = .returned (.tuple #[.int .i64 (cov0 a : Int), .int .i64 (covN a b : Int)]) ∧ w = w') := by
  constructor
  · intro hc
    by_cases h1 : f < 0
    · go_enter Tryz.func14, Tryz.ntmps14
      go_wp2_with fail
      go_ret2
      exact ⟨rfl, rfl⟩
    · by_cases h2 : t ≤ f
      · go_enter Tryz.func14, Tryz.ntmps14
        go_wp2_with fail
        go_ret2
        exact ⟨rfl, rfl⟩
      · have h3 : (n : Int) < t := by omega
        go_enter Tryz.func14, Tryz.ntmps14
        go_wp2_with fail
        go_ret2
        exact ⟨rfl, rfl⟩
  · rintro a b rfl rfl hab hbn
    obtain ⟨x, hx⟩ : ∃ x, x = a / 496 := ⟨_, rfl⟩
    obtain ⟨c, hc⟩ : ∃ c, b = c + 1 := ⟨b - 1, by omega⟩
    obtain ⟨y, hy⟩ : ∃ y, y = c / 496 := ⟨_, rfl⟩
    obtain ⟨d, hd⟩ : ∃ d, y = x + d := ⟨y - x, by omega⟩
    have h1 : ¬ (a : Int) < 0 := by omega
    have h2 : ¬ (b : Int) ≤ (a : Int) := by omega
    have h3 : ¬ (n : Int) < (b : Int) := by omega
    have h4 : (a : Int).tdiv 496 = (x : Int) := by rw [hx]; exact tdiv_nat a 496
    have h5 : (b : Int) - 1 = (c : Int) := by omega
    have h6 : (c : Int).tdiv 496 = (y : Int) := by rw [hy]; exact tdiv_nat c 496
    have h7 : (y : Int) - (x : Int) = (d : Int) := by omega
    have hxl : x ≤ 10000 := by omega
    have hyl : y ≤ 10000 := by omega
    have hcl : c ≤ 4000000 := by omega
    have hdl : d ≤ 10000 := by omega
    have HA : Hid (cov0 a = x ∧ covN a b = d + 1) := ⟨hx.symm, by unfold covN; rw [hc, Nat.add_sub_cancel, ← hy, ← hx]; omega⟩
    clear hx hc hy hd
    go_enter Tryz.func14, Tryz.ntmps14
    go_wp2_with fail
    go_ret2
    exact ⟨by rw [HA.out.1, HA.out.2]; rfl, rfl⟩

theorem oNonce13 (w : World) (i : Nat) (hi' : i ≤ 4000000) : Calls Tryz.prog 21 #[.int .i64 (i : Int)] w (Gives w (nonL 0 i)) := by
  have C : Hid (Calls Tryz.prog 39 #[.int .u64 0, .int .u32 (i : Int)] w (Gives w (nonL 0 i))) := oSNonce w 0 i (by omega) (by omega)
  go_enter Tryz.func21, Tryz.ntmps21
  go_wp2_with fail
  refine C.out.mono ?_
  rintro e w1 ⟨a1, m1, c1, rfl, o1, hb1⟩
  go_wp2_with fail
  go_ret
  exact ⟨a1, m1, c1, rfl, o1, hb1⟩

set_option maxRecDepth 100000 in
set_option maxHeartbeats 400000 in
theorem oFilled (w : World) {a : Option Addr} {m c : Nat} {l : List UInt8} (h : Bs w a m c l) (hm : m ≤ 512) : Calls Tryz.prog 23 #[.slice a m c] w fun e w' => ∃ g, e = .returned (.slice (some ⟨g, 0, none⟩) 512 512) ∧ Own w' w.heap.size (.slice (some ⟨g, 0, none⟩) 512 512) (pad l) ∧ Below w.heap.size w w' := by
  have hl := h.len
  go_enter Tryz.func23, Tryz.ntmps23
  go_wp2_with (first
    | (at_make; refine wpList_mkn _ rfl _ _ rfl w.heap.size 512 512 rfl rfl (by omega) (by omega) (Nat.le_refl _) ?_; intro g w1 hg hgl hown hbel; have HB : Hid (Blk w1 g (cs (List.replicate 512 0)) 5) := hown.blkF (by rw [List.length_replicate]); have h1 := h.below hbel (Nat.le_refl _); clear hown)
    | ((with_reducible refine at_cp ?_); (refine wpList_cpo _ rfl _ _ rfl g 0 512 512 rfl a m c rfl _ h1 _ _ HB.out (Nat.le_of_eq (by rw [cs_length, List.length_replicate])) m (by omega) ?_); intro w2 hB2 hg2; have HB2 : Hid _ := hB2; clear hB2 HB))
  go_ret
  have hB2 := HB2.out
  have hb2 : Below w.heap.size w w2 := below_of_but hbel hg2 hg hbel.size
  refine ⟨g, rfl, ?_, hb2⟩
  have e : (cs (List.replicate 512 (0 : UInt8))).take 0 ++ cs (l.take m) ++ (cs (List.replicate 512 (0 : UInt8))).drop (0 + m) = cs (pad l) := by
    rw [List.take_zero, List.nil_append, Nat.zero_add, List.take_of_length_le (by omega)]
    unfold pad
    rw [cs_append, hl]
    congr 1
    unfold cs
    rw [List.map_replicate, List.map_replicate, List.drop_replicate]
  rw [e] at hB2
  exact Own.ofBlk hB2 hg (pad_length (by omega)) (by omega)

/-- Are all of them noughts? -/
def zer (l : List UInt8) : Bool := l.all fun x => x == 0
theorem zer_rep (n : Nat) : zer (List.replicate n 0) = true := by simp [zer]
set_option maxHeartbeats 400000 in
theorem oNoughts (w : World) {a : Option Addr} {m c : Nat} {l : List UInt8} (h : Bs w a m c l) : Calls Tryz.prog 30 #[.slice a m c] w fun e w' => e = .returned (.bool (zer l)) ∧ w = w' := by
  have hmax := h.max
  have HL : Hid (l.length = m) := h.len
  have H : Hid (Bs w a m c l) := h
  clear h
  go_enter Tryz.func30, Tryz.ntmps30
  go_wp2_with fail
  go_loopw [7] (fun i wr => ∃ k : Nat, k ≤ m ∧ i = .int .i64 (k : Int) ∧ Hid (zer (l.take k) = true) ∧ w = wr) (fun i _ => m - (intOf i).toNat)
  case atStart => exact ⟨0, Nat.zero_le _, rfl, rfl, rfl⟩
  case round =>
    obtain ⟨k, hk, rfl, HZ, rfl⟩ := hrel
    by_cases hlt : k < m
    · have i0 : (k : Int) < (m : Int) := by omega
      obtain ⟨b, o, rfl, hlb, hcell⟩ := H.out.at (by omega)
      have hc := hcell k hlt
      have hs : l.take (k + 1) = l.take k ++ [l.getD k 0] := by
        rw [List.take_succ_eq_append_getElem (by rw [HL.out]; exact hlt), List.getD_eq_getElem?_getD, List.getElem?_eq_getElem (by rw [HL.out]; exact hlt)]
        rfl
      by_cases hx : l.getD k 0 = 0
      · have hb0 : bt l k = 0 := by unfold bt; rw [hx]; rfl
        rw [hb0] at hc
        have HN : Hid (zer (l.take (k + 1)) = true) := by show _ = _; rw [hs, hx]; unfold zer; rw [List.all_append]; show (zer (l.take k) && _) = _; rw [HZ.out]; rfl
        clear hcell hs hx HZ hb0
        go_wp2_with fail
        go_roundw
        case rel => exact ⟨k + 1, by omega, by go_num, HN, (by first | rfl | trivial)⟩
        case measure => simp [intOf]; omega
      · have hb0 : ¬ bt l k = 0 := by
          unfold bt
          intro e
          refine hx (UInt8.toNat_inj.1 ?_)
          have : (0 : UInt8).toNat = 0 := rfl
          omega
        have HF : Hid (zer l = false) := by
          show _ = _
          unfold zer
          rw [List.all_eq_false]
          refine ⟨l.getD k 0, ?_, by simpa using hx⟩
          rw [List.getD_eq_getElem?_getD, List.getElem?_eq_getElem (by rw [HL.out]; exact hlt)]
          exact List.getElem_mem _
        have hb1 := bt_lo l k
        have hb2 := bt_hi l k
        clear hcell hs hx HZ
        generalize bt l k = z at *
        go_wp2_with fail
        go_ret
        exact ⟨ret_bool HF.out.symm, rfl⟩
    · have i0 : ¬ (k : Int) < (m : Int) := by omega
      have HF : Hid (zer l = true) := by
        show _ = _
        have := HZ.out
        rwa [List.take_of_length_le (by rw [HL.out]; omega)] at this
      go_wp2_with fail
      go_ret
      exact ⟨ret_bool HF.out.symm, rfl⟩

end Go.Proofs.YtfknplcnfpincaaGreat

/-
  The contract of layer 13's program's beside. Conditions: sizes of at most 4000000; what a text is of at most 60 bytes.
-/
namespace Go.Proofs.YtfknplcnfpincaaGreat
open Go.RowKit
set_option linter.unusedVariables false

theorem Bss.four {w : World} {a1 a2 a3 a4 : Option Addr} {n1 c1 n2 c2 n3 c3 n4 c4 : Nat} {l1 l2 l3 l4 : List UInt8} (h1 : Bs w a1 n1 c1 l1) (h2 : Bs w a2 n2 c2 l2) (h3 : Bs w a3 n3 c3 l3) (h4 : Bs w a4 n4 c4 l4) :
    Bss (w.alloc (.cells #[.slice a1 n1 c1, .slice a2 n2 c2, .slice a3 n3 c3, .slice a4 n4 c4] 22)) (some ⟨w.heap.size, 0, none⟩) 4 4 [l1, l2, l3, l4] := by
  refine ⟨rfl, Nat.le_refl _, by unfold maxLen; omega, fun i hi => ?_⟩
  match i, hi with
  | 0, _ => exact ⟨w.heap.size, 0, a1, n1, c1, rfl, by rw [cell_new]; rfl, h1.below (below_alloc _ _) (Nat.le_refl _)⟩
  | 1, _ => exact ⟨w.heap.size, 0, a2, n2, c2, rfl, by rw [cell_new]; rfl, h2.below (below_alloc _ _) (Nat.le_refl _)⟩
  | 2, _ => exact ⟨w.heap.size, 0, a3, n3, c3, rfl, by rw [cell_new]; rfl, h3.below (below_alloc _ _) (Nat.le_refl _)⟩
  | 3, _ => exact ⟨w.heap.size, 0, a4, n4, c4, rfl, by rw [cell_new]; rfl, h4.below (below_alloc _ _) (Nat.le_refl _)⟩
theorem Bs.ofBlk1 {w : World} {g : Nat} {x : UInt8} (h : Blk w g [.int .u8 (x.toNat : Int)] 5) : Bs w (some ⟨g, 0, none⟩) 1 1 [x] := (Own.ofBlk (base := 0) (m := 1) (l := [x]) h (Nat.zero_le _) rfl (by omega)).toBs
theorem bes_tot {l : List UInt8} (h : l.length ≤ 60) (i : Nat) (b : List UInt8) (hb : b.length = 1) : tot [[99, 104, 117, 110, 107], l, putL i 4, b] ≤ 100000 := by
  simp [tot, putL_length, hb]
  omega
theorem cnt_small {n : Nat} (h : n ≤ 4000000) : cnt n ≤ 10000 := by unfold cnt; split <;> omega

set_option maxHeartbeats 1000000 in
theorem oBeside (w : World) {a : Option Addr} {m c : Nat} {l : List UInt8} (h : Bs w a m c l) (hm : m ≤ 60) (n i : Nat) (hn : n ≤ 4000000) (hi' : i ≤ 4000000) :
    Calls Tryz.prog 22 #[.slice a m c, .int .i64 (n : Int), .int .i64 (i : Int)] w (Gives w (bes l i (decide (i + 1 = cnt n)))) := by
  have CC : Hid (∀ u, Calls Tryz.prog 16 #[.int .i64 (n : Int)] u fun e w' => e = .returned (.int .i64 (cnt n : Int)) ∧ u = w') := fun u => oCount u n hn
  have HW : Hid (Bs w a m c l) := h
  have hll : l.length ≤ 60 := by rw [h.len]; exact hm
  have hcl := cnt_small hn
  have hcp := cnt_pos n
  obtain ⟨C, hC⟩ : ∃ C, C = cnt n := ⟨_, rfl⟩
  rw [← hC] at CC hcl hcp ⊢
  obtain ⟨k, hk⟩ : ∃ k, C = k + 1 := ⟨C - 1, by omega⟩
  have hs : (C : Int) - 1 = (k : Int) := by omega
  have HD : Hid (decide (i + 1 = C) = decide (i = k)) := by
    show _ = _
    rw [hk]
    congr 1
    rw [Nat.add_right_cancel_iff]
  rw [HD.out]
  clear hk hC h HD
  have B1 : Blk (w.alloc (.cells #[.int .u8 0] 5)) w.heap.size [.int .u8 0] 5 := Blk.new w _ _
  have b1 : Below w.heap.size w (w.alloc (.cells #[.int .u8 0] 5)) := below_alloc w _
  have FIN : Hid (∀ (w2 : World) (x : Nat) (y : UInt8), Blk w2 x [.int .u8 (y.toNat : Int)] 5 → Below w.heap.size w w2 → Bs w2 a m c l) := fun w2 x y _ hb => HW.out.below hb (Nat.le_refl _)
  by_cases hik : i = k
  · subst hik
    rw [decide_eq_true rfl]
    go_enter Tryz.func22, Tryz.ntmps22
    go_wp2_with fail
    obtain ⟨x, hx⟩ : ∃ x, x = w.heap.size := ⟨_, rfl⟩
    have hxw : w.heap.size ≤ x := by omega
    rw [← hx] at B1 ⊢
    clear hx
    generalize w.alloc (.cells #[.int .u8 0] 5) = w1 at *
    refine (CC.out w1).mono ?_
    rintro e w1 ⟨rfl, rfl⟩
    have c1 : w1.cell? ⟨x, 0, none⟩ = some (.int .u8 0) := B1.cell 0
    have f1 := B1.free 0
    have l1 := B1.lt
    have B2 : Hid (Blk (w1.setCell ⟨x, 0, none⟩ (.int .u8 1)) x [.int .u8 (((1 : UInt8).toNat : Nat) : Int)] 5) := B1.setC 0 (.int .u8 1)
    have b2 : Hid (Below w.heap.size w (w1.setCell ⟨x, 0, none⟩ (.int .u8 1))) := b1.setCell (p := ⟨x, 0, none⟩) hxw _
    go_upto_region 4 with fail
    generalize w1.setCell ⟨x, 0, none⟩ (.int .u8 1) = w2 at *
    clear B1 b1 c1 f1 l1
    have kc := fun (w : World) (C : Array Value) (n c : Nat) => Lib.run_convert_bytes_const (P := Tryz.prog) w 22 5 C n c Tryz.underlying22 Tryz.underlying5
    have X3 : Hid (Bs (w2.alloc (.cells #[.int .u8 99, .int .u8 104, .int .u8 117, .int .u8 110, .int .u8 107] 5 (5, 6))) (some ⟨w2.heap.size, 0, none⟩) 5 5 [99, 104, 117, 110, 107]) := Bs.marked w2 [99, 104, 117, 110, 107] _ (5, 6) rfl (by decide)
    have b3 : Hid (Below w2.heap.size w2 (w2.alloc (.cells #[.int .u8 99, .int .u8 104, .int .u8 117, .int .u8 110, .int .u8 107] 5 (5, 6)))) := below_alloc w2 _
    go_wp2_with fail
    clear kc
    generalize w2.alloc (.cells #[.int .u8 99, .int .u8 104, .int .u8 117, .int .u8 110, .int .u8 107] 5 (5, 6)) = w3 at *
    obtain ⟨x3, hx3⟩ : ∃ x, x = w2.heap.size := ⟨_, rfl⟩
    rw [← hx3] at X3 ⊢
    have Q3 : Hid (Below w.heap.size w w3) := b2.out.trans (b3.out.mono b2.out.size)
    have L3 : Hid (Bs w3 (some ⟨x, 0, none⟩) 1 1 [1]) := (Bs.ofBlk1 (B2.out)).below b3.out (Nat.le_refl _)
    clear hx3 b2 b3 B2
    refine (oPut (i : Int) 4 w3 (by omega) (by omega) (by omega) (by omega)).mono ?_
    rintro e w4 ⟨a4, m4, c4, rfl, o4, hb4⟩
    have P4 : Hid (Bs w4 a4 m4 c4 (putL i 4)) := o4.toBs
    have Q4 : Hid (Below w.heap.size w w4) := Q3.out.trans (hb4.mono Q3.out.size)
    have X4 : Hid (Bs w4 (some ⟨x3, 0, none⟩) 5 5 [99, 104, 117, 110, 107]) := X3.out.below hb4 (Nat.le_refl _)
    have L4 : Hid (Bs w4 (some ⟨x, 0, none⟩) 1 1 [1]) := L3.out.below hb4 (Nat.le_refl _)
    clear o4 hb4 X3 L3 Q3
    have H5 : Hid (Bss (w4.alloc (.cells #[.slice (some ⟨x3, 0, none⟩) 5 5, .slice a m c, .slice a4 m4 c4, .slice (some ⟨x, 0, none⟩) 1 1] 22)) (some ⟨w4.heap.size, 0, none⟩) 4 4 [[99, 104, 117, 110, 107], l, putL i 4, [1]]) := Bss.four X4.out (HW.out.below Q4.out (Nat.le_refl _)) P4.out L4.out
    have b5 : Hid (Below w4.heap.size w4 (w4.alloc (.cells #[.slice (some ⟨x3, 0, none⟩) 5 5, .slice a m c, .slice a4 m4 c4, .slice (some ⟨x, 0, none⟩) 1 1] 22))) := below_alloc w4 _
    go_wp2_with fail
    generalize w4.alloc (.cells #[.slice (some ⟨x3, 0, none⟩) 5 5, .slice a m c, .slice a4 m4 c4, .slice (some ⟨x, 0, none⟩) 1 1] 22) = w5 at *
    refine (oPack w5 H5.out (bes_tot hll i [1] rfl) (by omega)).mono ?_
    rintro e w6 ⟨a6, m6, c6, rfl, o6, hb6⟩
    have Q5 := Q4.out.trans (b5.out.mono Q4.out.size)
    have Q6 := Q5.trans (hb6.mono Q5.size)
    have O6 := o6.mono Q5.size
    clear H5 b5 X4 L4 P4 Q4 o6 hb6
    go_wp2_with fail
    go_ret
    exact ⟨a6, m6, c6, rfl, O6, Q6⟩
  · have hne : ¬ (i : Int) = (k : Int) := by omega
    rw [decide_eq_false hik]
    go_enter Tryz.func22, Tryz.ntmps22
    go_wp2_with fail
    obtain ⟨x, hx⟩ : ∃ x, x = w.heap.size := ⟨_, rfl⟩
    have hxw : w.heap.size ≤ x := by omega
    rw [← hx] at B1 ⊢
    clear hx
    generalize w.alloc (.cells #[.int .u8 0] 5) = w1 at *
    refine (CC.out w1).mono ?_
    rintro e w2 ⟨rfl, rfl⟩
    go_upto_region 4 with fail
    have kc := fun (w : World) (C : Array Value) (n c : Nat) => Lib.run_convert_bytes_const (P := Tryz.prog) w 22 5 C n c Tryz.underlying22 Tryz.underlying5
    have X3 : Hid (Bs (w1.alloc (.cells #[.int .u8 99, .int .u8 104, .int .u8 117, .int .u8 110, .int .u8 107] 5 (5, 6))) (some ⟨w1.heap.size, 0, none⟩) 5 5 [99, 104, 117, 110, 107]) := Bs.marked w1 [99, 104, 117, 110, 107] _ (5, 6) rfl (by decide)
    have b3 : Hid (Below w1.heap.size w1 (w1.alloc (.cells #[.int .u8 99, .int .u8 104, .int .u8 117, .int .u8 110, .int .u8 107] 5 (5, 6)))) := below_alloc w1 _
    have B2 : Hid (Blk w1 x [.int .u8 (((0 : UInt8).toNat : Nat) : Int)] 5) := B1
    have b2 : Hid (Below w.heap.size w w1) := b1
    clear B1 b1
    go_wp2_with fail
    clear kc
    generalize w1.alloc (.cells #[.int .u8 99, .int .u8 104, .int .u8 117, .int .u8 110, .int .u8 107] 5 (5, 6)) = w3 at *
    obtain ⟨x3, hx3⟩ : ∃ x, x = w1.heap.size := ⟨_, rfl⟩
    rw [← hx3] at X3 ⊢
    have Q3 : Hid (Below w.heap.size w w3) := b2.out.trans (b3.out.mono b2.out.size)
    have L3 : Hid (Bs w3 (some ⟨x, 0, none⟩) 1 1 [0]) := (Bs.ofBlk1 (B2.out)).below b3.out (Nat.le_refl _)
    clear hx3 b2 b3 B2
    refine (oPut (i : Int) 4 w3 (by omega) (by omega) (by omega) (by omega)).mono ?_
    rintro e w4 ⟨a4, m4, c4, rfl, o4, hb4⟩
    have P4 : Hid (Bs w4 a4 m4 c4 (putL i 4)) := o4.toBs
    have Q4 : Hid (Below w.heap.size w w4) := Q3.out.trans (hb4.mono Q3.out.size)
    have X4 : Hid (Bs w4 (some ⟨x3, 0, none⟩) 5 5 [99, 104, 117, 110, 107]) := X3.out.below hb4 (Nat.le_refl _)
    have L4 : Hid (Bs w4 (some ⟨x, 0, none⟩) 1 1 [0]) := L3.out.below hb4 (Nat.le_refl _)
    clear o4 hb4 X3 L3 Q3
    have H5 : Hid (Bss (w4.alloc (.cells #[.slice (some ⟨x3, 0, none⟩) 5 5, .slice a m c, .slice a4 m4 c4, .slice (some ⟨x, 0, none⟩) 1 1] 22)) (some ⟨w4.heap.size, 0, none⟩) 4 4 [[99, 104, 117, 110, 107], l, putL i 4, [0]]) := Bss.four X4.out (HW.out.below Q4.out (Nat.le_refl _)) P4.out L4.out
    have b5 : Hid (Below w4.heap.size w4 (w4.alloc (.cells #[.slice (some ⟨x3, 0, none⟩) 5 5, .slice a m c, .slice a4 m4 c4, .slice (some ⟨x, 0, none⟩) 1 1] 22))) := below_alloc w4 _
    go_wp2_with fail
    generalize w4.alloc (.cells #[.slice (some ⟨x3, 0, none⟩) 5 5, .slice a m c, .slice a4 m4 c4, .slice (some ⟨x, 0, none⟩) 1 1] 22) = w5 at *
    refine (oPack w5 H5.out (bes_tot hll i [0] rfl) (by omega)).mono ?_
    rintro e w6 ⟨a6, m6, c6, rfl, o6, hb6⟩
    have Q5 := Q4.out.trans (b5.out.mono Q4.out.size)
    have Q6 := Q5.trans (hb6.mono Q5.size)
    have O6 := o6.mono Q5.size
    clear H5 b5 X4 L4 P4 Q4 o6 hb6
    go_wp2_with fail
    go_ret
    exact ⟨a6, m6, c6, rfl, O6, Q6⟩

end Go.Proofs.YtfknplcnfpincaaGreat

/-
  Slices of rows of bytes that a call made itself: literals of one row, storing such a slice into a field, how they outlast what is written. No condition; no statement of the seat is proved here.
-/
namespace Go.Proofs.YtfknplcnfpincaaGreat
open Go.RowKit

theorem infoBy : (Tryz.prog.info? 22).map (fun i => (i.zero, i.size, i.bytes)) = some (some (.slice none 0 0), 1, 24) := by kernel_rfl
theorem neB5 : 22 ≠ 5 := by decide
/-- A literal of one slice, the one that may come up. -/
theorem opBS1 {ops : Array Oper} {Q : Exit → Act → World → Prop} {i : Nat} {oi : Oper} (d : Option Tmp) (hi : ops[i]? = some oi) (hd : oi.dst = d) (hg : oi.guard = none) (x : Operand) (ho : oi.op = .buildSlice 28 1 #[(0, x)]) {K : Act → World → Prop} {a : Act} {w : World} (s : Option Addr) (n c : Nat) (hx : a.eval x = .slice s n c)
    (k : K (a.put d (.slice (some ⟨w.heap.size, 0, none⟩) 1 1)) (w.alloc (.cells #[.slice s n c] 22))) : wpOp Tryz.prog ops Q i K a w := by
  subst hd
  have hK : Hid _ := k
  clear k
  unfold wpOp
  simp only [hi]
  rw [if_pos (by simp [Region.wanted, hg])]
  left
  unfold Oper.wp execOp
  simp only [ho, List.map_toArray, List.map_cons, List.map_nil, hx]
  go_simp
  exact hK.out
/-- A slice of slices stored into a field, the one that may come up. -/
theorem opStS {ops : Array Oper} {Q : Exit → Act → World → Prop} {i : Nat} {oi : Oper} (hi : ops[i]? = some oi) (hd : oi.dst = none) (hg : oi.guard = none) (x y : Operand) (ho : oi.op = .store 28 x y) {K : Act → World → Prop} {a : Act} {w : World} (g o : Nat) (hx : a.eval x = .pointer (some ⟨g, o, none⟩)) (s : Option Addr) (n c : Nat) (hy : a.eval y = .slice s n c) (vs : List Value) (t : TypeId) (hb : Blk w g vs t) (ho2 : o < vs.length)
    (k : K a (w.setCell ⟨g, o, none⟩ (.slice s n c))) : wpOp Tryz.prog ops Q i K a w := by
  have hc := hb.cell o
  rw [List.getElem?_eq_getElem ho2] at hc
  have hf := hb.free o
  have hl := hb.lt
  have hK : Hid _ := k
  clear k
  unfold wpOp
  simp only [hi]
  rw [if_pos (by simp [Region.wanted, hg])]
  left
  unfold Oper.wp execOp
  simp only [ho, hx, hy]
  go_simp
  exact hK.out
theorem Blk.not5' {w : World} {g : Nat} {vs : List Value} {t : TypeId} (h : Blk w g vs t) (ht : t ≠ 5) : ∀ cur f, w.heap[g]? ≠ some (.cells cur 5 f) := fun cur f hh => by
  rw [show w.heap[g]? = _ from h] at hh
  simp only [Option.some.injEq, Obj.cells.injEq] at hh
  exact ht hh.2.1
theorem but_cells' (g : Nat) : ∀ (us : List Value) (w : World) (o : Nat), w.grownBy (w.setCells g o us) (some g)
  | [], _, _ => World.grownBy.refl _ _
  | u :: us, w, o => but_trans (but_set w g o u) (but_cells' g us _ (o + 1))
theorem OwB.grown {A : Nat → Prop} {e : TypeId} {w w' : World} {base r : Nat} {v : Value} {l : List (List UInt8)} (h : OwS (elB A) 1 e w base v l) (g : w.grownBy w' (some r)) (hr : r < base) (h5 : ∀ cur f, w.heap[r]? ≠ some (.cells cur 5 f)) : OwS (elB A) 1 e w' base v l :=
  h.keep (elB.grown g (fun j cur f hj => by obtain rfl := Option.some.inj hj; exact h5 cur f)) (fun j hj => g.block j (h.lt j hj).2 (fun e => by have := (h.lt j hj).1; have := Option.some.inj e; omega))
theorem OwB.below {A : Nat → Prop} {e : TypeId} {w w' : World} {base : Nat} {v : Value} {l : List (List UInt8)} (h : OwS (elB A) 1 e w base v l) (g : Below w.heap.size w w') : OwS (elB A) 1 e w' base v l :=
  h.keep (elB.keep fun j hj _ => g.block j hj) (fun j hj => g.block j (h.lt j hj).2)

end Go.Proofs.YtfknplcnfpincaaGreat

/-
  An element of a slice of slices of the call's own, replaced. No condition; no statement of the seat is proved here.
-/
namespace Go.Proofs.YtfknplcnfpincaaGreat
open Go.RowKit

theorem flat1_set : ∀ {rows : List (List Value)} (_ : ∀ vs ∈ rows, vs.length = 1) (k : Nat) (u : Value), (rows.set k [u]).flatten = rows.flatten.set k u
  | [], _, k, u => by simp
  | r :: rows, h, 0, u => by
    obtain ⟨x, rfl⟩ := List.length_eq_one_iff.1 (h r (by simp))
    simp
  | r :: rows, h, k + 1, u => by
    obtain ⟨x, rfl⟩ := List.length_eq_one_iff.1 (h r (by simp))
    have hx : ∀ vs ∈ rows, vs.length = 1 := fun v hv => h v (List.mem_cons_of_mem _ hv)
    have := flat1_set hx k u
    simpa using this
theorem Rel2.set {α β : Type} {R : α → β → Prop} : ∀ {l : List α} {m : List β}, Rel2 R l m → ∀ (k : Nat) {x : α} {y : β}, R x y → Rel2 R (l.set k x) (m.set k y)
  | [], [], _, k, x, y, _ => by simp [Rel2]
  | _ :: _, _ :: _, h, 0, x, y, hr => ⟨hr, h.2⟩
  | _ :: _, _ :: _, h, k + 1, x, y, hr => ⟨h.1, Rel2.set h.2 k hr⟩
  | [], _ :: _, h, _, _, _, _ => h.elim
  | _ :: _, [], h, _, _, _, _ => h.elim
/-- out.L[k] = s. -/
theorem OwB.set {A : Nat → Prop} {e : TypeId} {w : World} {base : Nat} {a : Option Addr} {n c : Nat} {l : List (List UInt8)} (h : OwS (elB A) 1 e w base (.slice a n c) l) (he : e ≠ 5) {k : Nat} (hk : k < l.length) :
    ∃ g, a = some ⟨g, 0, none⟩ ∧ base ≤ g ∧ g < w.heap.size ∧ (∃ u, w.cell? ⟨g, k, none⟩ = some u) ∧ w.frozen? ⟨g, k, none⟩ = false ∧
      ∀ {p : Option Addr} {m q : Nat} {x : List UInt8}, B5 A w p m q x → OwS (elB A) 1 e (w.setCell ⟨g, k, none⟩ (.slice p m q)) base (.slice a n c) (l.set k x) := by
  have h5 := OwS.not5 h he
  obtain ⟨rows, hr, h1, h2⟩ := h
  rcases h2 with ⟨hv, h0⟩ | ⟨g, cap, cur, hv, hg, hh, hn, hm, hc, ht⟩
  · omega
  · simp only [Value.slice.injEq] at hv
    obtain ⟨rfl, rfl, rfl⟩ := hv
    have hlt : g < w.heap.size := (Array.getElem?_eq_some_iff.1 hh).1
    have hks : k < cur.size := by rw [hc]; omega
    refine ⟨g, rfl, hg, hlt, ⟨cur[k], ?_⟩, ?_, fun {p m q x} hx => ?_⟩
    · rw [cell_of_row w g k _ e (0, 0) hh]
      simp [hks]
    · simp [World.frozen?, hh]
    · have hgb := but_set w g k (.slice p m q)
      have hel := elB.grown (A := A) hgb (fun j cur f hj => h5 j cur f (by rw [← hj]; rfl))
      refine ⟨rows.set k [.slice p m q], ?_, ?_, ?_⟩
      · exact Rel2.set (hr.mono fun y vs ⟨a1, a2, a3⟩ => ⟨a1, a2, hel y vs a3⟩) k ⟨rfl, by intro v hv; simp at hv; subst hv; rfl, p, m, q, rfl, hx.grown hgb (fun j cur f hj => h5 j cur f (by rw [← hj]; rfl))⟩
      · rw [flat1_set (rel_lens hr), List.length_set, List.length_set]
        exact h1
      · refine Or.inr ⟨g, c, cur.setIfInBounds k (.slice p m q), by rw [List.length_set], hg, ?_, by rw [List.length_set]; exact hn, hm, by simpa using hc, ?_⟩
        · rw [setCell_eq_setRow w g k _ e (0, 0) _ hh, setRow_heap w g _ _ e (0, 0) hh]
        · rw [flat1_set (rel_lens hr), List.length_set, ← ht]
          rw [Array.toList_setIfInBounds, List.take_set]

theorem OwB.mono {A A' : Nat → Prop} {e : TypeId} {w : World} {base : Nat} {v : Value} {l : List (List UInt8)} (h : OwS (elB A) 1 e w base v l) (hA : ∀ j, j < w.heap.size → A j → A' j) : OwS (elB A') 1 e w base v l := by
  obtain ⟨rows, hr, ho⟩ := h
  exact ⟨rows, hr.mono fun x vs ⟨a1, a2, p, m, q, e, hb⟩ => ⟨a1, a2, p, m, q, e, hb.mono hA⟩, ho⟩

end Go.Proofs.YtfknplcnfpincaaGreat

/-
  'make' of a slice whose elements' cells are all alike: a block of them. No condition; no statement of the seat is proved here.
-/
namespace Go.Proofs.YtfknplcnfpincaaGreat
open Go.RowKit

theorem cs_take (l : List UInt8) (k : Nat) : (cs l).take k = cs (l.take k) := by simp [cs]
theorem cs_drop (l : List UInt8) (k : Nat) : (cs l).drop k = cs (l.drop k) := by simp [cs]

theorem toList_madeCells_rep (sz : Nat) (z : Value) (n : Nat) (h : 0 < sz) : (madeCells (Array.replicate sz z) n).toList = List.replicate n z := by
  apply List.ext_getElem?
  intro j
  by_cases hj : j < n
  · have hm : j % sz < sz := Nat.mod_lt _ h
    simp [madeCells, hj, hm]
  · simp [madeCells, hj]
/-- 'make([]E, n)': a block of noughts. -/
theorem wpList_mkB {ops : Array Oper} {rest : List Oper} {o : Oper} {a : Act} {Q : Exit → Act → World → Prop} (w : World) (T e : TypeId) (z zz : Value) (sz by_ : Nat) (hT : Tryz.prog.underlying T = some (.slice e)) (hi : (Tryz.prog.info? e).map (fun i => (i.zero, i.size, i.bytes)) = some (some z, sz, by_)) (hz : z.cells = Array.replicate sz zz) (hsz : 0 < sz) (hby : by_ ≤ 1000)
    (hgd : o.guard = none) (l c : Operand) (ho : o.op = Op.makeSlice T l c) (n : Nat) (hl : a.eval l = .int .i64 (n : Int)) (hc : a.eval c = .int .i64 (n : Int)) (hn : n ≤ 1000000)
    (h : ∀ w', Blk w' w.heap.size (List.replicate (n * sz) zz) e → Below w.heap.size w w' → wpList Tryz.prog ops Q rest (a.put o.dst (.slice (some ⟨w.heap.size, 0, none⟩) n n)) w') : wpList Tryz.prog ops Q (o :: rest) a w := by
  obtain ⟨i0, hi, hz0, hz1, hz2⟩ := info_parts hi
  refine wpList_make_full w hgd l c T ho w.heap.size e i0 z sz hT hi hz0 hz1 .i64 .i64 (n : Int) (n : Int) n hl hc rfl rfl (by rw [hz2]; have := Nat.mul_le_mul hby hn; omega) (by unfold maxLen; omega) (Nat.le_refl _) ?_
  intro w' ho' hg
  rw [hz, toList_madeCells_rep sz zz _ hsz] at ho'
  refine h w' ?_ ((Below.refl _ _).grown hg (Nat.le_refl _) (by simp))
  obtain ⟨h1, h2⟩ := ho'
  rcases h2 with ⟨h2, _⟩ | ⟨g', cap, cur, hv, _, hh, _, _, hcs, ht⟩
  · simp at h2
  · simp only [Value.slice.injEq, Option.some.injEq, Addr.mk.injEq] at hv
    obtain ⟨⟨rfl, _, _⟩, _, rfl⟩ := hv
    unfold Blk
    rw [hh, ← ht, List.take_of_length_le (by rw [Array.length_toList]; omega)]


end Go.Proofs.YtfknplcnfpincaaGreat

/-
  Memory of an object: what was new, or was there ('Next'); what was not written stays ('BA.after'). No condition; no statement of the seat is proved here.
-/
namespace Go.Proofs.YtfknplcnfpincaaGreat
open Go.RowKit

/-- What was new, or was there. -/
def Next (w : World) (P P' : Nat → Prop) : Prop := ∀ j, P' j → P j ∨ w.heap.size ≤ j
theorem Next.of {w w1 : World} {P P' : Nat → Prop} (h : Next w1 P P') (hs : w.heap.size ≤ w1.heap.size) : Next w P P' := fun j hj => (h j hj).imp id fun h => Nat.le_trans hs h
theorem Kp.newer {F G : Nat → Prop} {w a b : World} (h : Kp F w a) (k : Kp G a b) (hG : ∀ j, G j → w.heap.size ≤ j) : Kp F w b :=
  ⟨k.os.trans h.os, k.tape.trans h.tape, k.output.trans h.output, Nat.le_trans h.size k.size, fun i hi hn => (k.block i (Nat.lt_of_lt_of_le hi h.size) (fun hg => by have := hG i hg; omega)).trans (h.block i hi hn)⟩
/-- What was not written stays, and is not written from then on. -/
theorem BA.after {F F' : Nat → Prop} {w w' : World} {p : Option Addr} {m q : Nat} {b : List UInt8} (h : BA (fun j => ¬ F j) w p m q b) (k : Kp F w w') (n : Next w F F') : BA (fun j => ¬ F' j) w' p m q b := by
  have h1 : BA (fun j => ¬ F j ∧ j < w.heap.size) w p m q b := h.mono fun j hj ha => ⟨ha, hj⟩
  refine (h1.keep k.size fun j hj ha => k.block j hj ha.1).mono fun j _ ha hF => ?_
  rcases n j hF with h | h
  · exact ha.1 h
  · have := ha.2
    omega
theorem BA.grow {A : Nat → Prop} {w w' : World} {p : Option Addr} {m q : Nat} {b : List UInt8} (h : BA A w p m q b) (k : Below w.heap.size w w') : BA A w' p m q b := h.keep k.size fun j hj _ => k.block j hj

end Go.Proofs.YtfknplcnfpincaaGreat
