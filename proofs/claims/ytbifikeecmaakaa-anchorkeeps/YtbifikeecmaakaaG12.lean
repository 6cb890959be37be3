/-
  3 texts in one. No statement of the seat is proved here.
-/
import Derived.Test.YtbifikeecmaakaaG11
import Derived.OrdersHeld
import Derived.Deep.RegionHeld3
/-
  Plain mathematics of layer 14: what an anchor is, what is wrong with it, its bytes, which anchor bytes begin with, there and back; the keeper of a cell, and what each call makes of it. No condition; nothing of the program.
-/
namespace Go.Proofs.Ytbifikeecmaakaa
open Go.RowKit

/-- A bucket's key. -/
structure KekS where
  bucket : Int
  gen : Int
  key : List UInt8
/-- An anchor. -/
structure AncS where
  seq : Int
  epoch : Int
  given : Int
  root : Int
  rootEpoch : Int
  pending : Int
  master : List UInt8
  keks : List KekS
def zeroA : AncS := ⟨0, 0, 0, 0, 0, 0, [], []⟩

/-- What is wrong with a bucket's key. -/
def chkK (k : KekS) : Int := if ¬ (0 ≤ k.bucket ∧ k.bucket ≤ 65535 ∧ 0 ≤ k.gen ∧ k.gen ≤ 65535) then 2 else if k.key.length ≠ 32 then 17 else 0
def chkKs : List KekS → Int
  | [] => 0
  | k :: l => if chkK k = 0 then chkKs l else chkK k
def okN (a : AncS) : Prop := (1 ≤ a.seq ∧ a.seq ≤ 1099511627776) ∧ (0 ≤ a.given ∧ a.given ≤ 1099511627776) ∧ (0 ≤ a.epoch ∧ a.epoch ≤ a.given) ∧ (0 ≤ a.rootEpoch ∧ a.rootEpoch ≤ 1099511627776)
abbrev okN.dec (a : AncS) : Decidable (okN a) := by unfold okN; infer_instance
def okB (a : AncS) : Prop := (-1 ≤ a.root ∧ a.root ≤ 4095) ∧ (0 ≤ a.pending ∧ a.pending ≤ 4095)
abbrev okB.dec (a : AncS) : Decidable (okB a) := by unfold okB; infer_instance
/-- What is wrong with an anchor first. -/
def chkA (a : AncS) : Int := @ite _ (okN a) (okN.dec a) (@ite _ (okB a) (okB.dec a) (if a.master.length ≠ 32 ∨ 16 < a.keks.length then 17 else chkKs a.keks) 2) 2
theorem chkA_num {a : AncS} (h : ¬ okN a) : chkA a = 2 := by unfold chkA; rw [if_neg h]
theorem chkA_blk {a : AncS} (h : okN a) (h2 : ¬ okB a) : chkA a = 2 := by unfold chkA; rw [if_pos h, if_neg h2]
theorem chkA_size {a : AncS} (h : okN a) (h2 : okB a) (h3 : a.master.length ≠ 32 ∨ 16 < a.keks.length) : chkA a = 17 := by unfold chkA; rw [if_pos h, if_pos h2, if_pos h3]
theorem chkA_keks {a : AncS} (h : okN a) (h2 : okB a) (h3 : ¬ (a.master.length ≠ 32 ∨ 16 < a.keks.length)) : chkA a = chkKs a.keks := by unfold chkA; rw [if_pos h, if_pos h2, if_neg h3]
theorem chkA_ok {a : AncS} (h : chkA a = 0) : okN a ∧ okB a ∧ a.master.length = 32 ∧ a.keks.length ≤ 16 ∧ chkKs a.keks = 0 := by
  unfold chkA at h
  split at h
  · split at h
    · split at h
      · cases h
      · rename_i h1 h2 h3
        refine ⟨h1, h2, by omega, by omega, h⟩
    · cases h
  · cases h
theorem chkK_ok {k : KekS} (h : chkK k = 0) : (0 ≤ k.bucket ∧ k.bucket ≤ 65535 ∧ 0 ≤ k.gen ∧ k.gen ≤ 65535) ∧ k.key.length = 32 := by
  unfold chkK at h
  split at h
  · cases h
  · rename_i h1
    split at h
    · cases h
    · rename_i h2
      exact ⟨Classical.not_not.1 h1, by omega⟩
theorem chkK_cases (k : KekS) : chkK k = 0 ∨ chkK k = 2 ∨ chkK k = 17 := by
  unfold chkK
  split
  · exact Or.inr (Or.inl rfl)
  · split
    · exact Or.inr (Or.inr rfl)
    · exact Or.inl rfl
theorem chkKs_cases : ∀ l, chkKs l = 0 ∨ chkKs l = 2 ∨ chkKs l = 17
  | [] => Or.inl rfl
  | k :: l => by
    unfold chkKs
    split
    · exact chkKs_cases l
    · exact chkK_cases k
theorem chkA_cases (a : AncS) : chkA a = 0 ∨ chkA a = 2 ∨ chkA a = 17 := by
  unfold chkA
  split
  · split
    · split
      · exact Or.inr (Or.inr rfl)
      · exact chkKs_cases _
    · exact Or.inr (Or.inl rfl)
  · exact Or.inr (Or.inl rfl)
theorem chkKs_all : ∀ {l : List KekS}, chkKs l = 0 → ∀ k ∈ l, chkK k = 0
  | [], _, k, hk => by cases hk
  | x :: l, h, k, hk => by
    unfold chkKs at h
    split at h
    · rename_i hx
      rcases List.mem_cons.1 hk with rfl | hk
      · exact hx
      · exact chkKs_all h k hk
    · rename_i hx
      exact absurd h hx
/-- Those ahead of the k-th have nothing wrong: what is wrong is told by the k-th, or those behind. -/
theorem chkKs_drop : ∀ {l : List KekS} {k : Nat} {x : KekS}, l[k]? = some x → chkKs (l.drop k) = if chkK x = 0 then chkKs (l.drop (k + 1)) else chkK x
  | l, k, x, h => by
    have hk : k < l.length := (List.getElem?_eq_some_iff.1 h).1
    have e : l.drop k = x :: l.drop (k + 1) := by
      rw [List.drop_eq_getElem_cons hk]
      rw [List.getElem?_eq_getElem hk] at h
      rw [Option.some.inj h]
    rw [e]
    rfl

/-- The bytes of a bucket's key. -/
def kekL (k : KekS) : List UInt8 := putL k.bucket.toNat 2 ++ putL k.gen.toNat 2 ++ k.key
def markL : List UInt8 := [100, 101, 101, 100, 98, 111, 120, 49]
def nums (a : AncS) : List Int := [a.seq, a.epoch, a.given, a.root + 1, a.rootEpoch, a.pending]
def numsL (l : List Int) : List UInt8 := (l.map fun n => putL n.toNat 8).flatten
/-- The bytes of an anchor. -/
def ancL (a : AncS) : List UInt8 := markL ++ numsL (nums a) ++ a.master ++ putL a.keks.length 1 ++ (a.keks.map kekL).flatten
theorem numsL_len : ∀ l, (numsL l).length = 8 * l.length
  | [] => rfl
  | n :: l => by
    unfold numsL
    rw [List.map_cons, List.flatten_cons, List.length_append, putL_length, List.length_cons]
    have := numsL_len l
    unfold numsL at this
    omega
theorem keksL_len : ∀ {l : List KekS}, chkKs l = 0 → ((l.map kekL).flatten).length = 36 * l.length
  | [], _ => rfl
  | k :: l, h => by
    have h1 := chkKs_all h k (by simp)
    have h2 : chkKs l = 0 := by
      unfold chkKs at h
      rw [if_pos h1] at h
      exact h
    rw [List.map_cons, List.flatten_cons, List.length_append, keksL_len h2, List.length_cons]
    unfold kekL
    rw [List.length_append, List.length_append, putL_length, putL_length, (chkK_ok h1).2]
    omega
theorem ancL_len {a : AncS} (h : chkA a = 0) : (ancL a).length = 89 + 36 * a.keks.length := by
  obtain ⟨_, _, h3, _, h5⟩ := chkA_ok h
  unfold ancL
  rw [List.length_append, List.length_append, List.length_append, List.length_append, keksL_len h5, numsL_len, putL_length, h3]
  simp [markL, nums]
theorem ancL_le {a : AncS} (h : chkA a = 0) : (ancL a).length ≤ 665 := by
  have := (chkA_ok h).2.2.2.1
  rw [ancL_len h]
  omega

/-- Reading: what is left, and the code. -/
abbrev RdS := List UInt8 × Int
def rN (s : RdS) (k : Int) : RdS := ((rdBytes s.1 s.2 k).1, (rdBytes s.1 s.2 k).2.1)
def rB (s : RdS) (k : Int) : List UInt8 := (rdBytes s.1 s.2 k).2.2
def rV (s : RdS) (k : Int) : Nat := getN (rB s k)
def cap62 (n : Nat) : Int := if 4611686018427387904 < n then 4611686018427387904 else (n : Int)
def rNs : Nat → RdS → RdS
  | 0, s => s
  | n + 1, s => rN (rNs n s) 8
def numR (s : RdS) (i : Nat) : Int := cap62 (rV (rNs i s) 8)
def rK (s : RdS) : RdS := rN (rN (rN s 2) 2) 32
def kekR (s : RdS) : KekS := ⟨(rV s 2 : Nat), (rV (rN s 2) 2 : Nat), rB (rN (rN s 2) 2) 32⟩
def rKs : Nat → RdS → RdS
  | 0, s => s
  | n + 1, s => rK (rKs n s)
def keksR : Nat → RdS → List KekS
  | 0, _ => []
  | n + 1, s => keksR n s ++ [kekR (rKs n s)]
def s32 (s : RdS) : RdS := rN (rNs 6 s) 32
def sCnt (s : RdS) : Nat := rV (s32 s) 1
def sKek (s : RdS) : RdS := rN (s32 s) 1
def headR (s : RdS) : AncS := ⟨numR s 0, numR s 1, numR s 2, numR s 3 - 1, numR s 4, numR s 5, rB (rNs 6 s) 32, []⟩
def readR (s : RdS) : AncS := { headR s with keks := keksR (sCnt s) (sKek s) }
def restR (s : RdS) : RdS := rKs (sCnt s) (sKek s)
/-- The anchor with which bytes begin, and what is wrong first. -/
def getA (b : List UInt8) : AncS × Int :=
  if rB (b, 0) 8 ≠ markL then (zeroA, 9) else if (restR (rN (b, 0) 8)).2 ≠ 0 then (zeroA, (restR (rN (b, 0) 8)).2) else if chkA (readR (rN (b, 0) 8)) ≠ 0 then (zeroA, chkA (readR (rN (b, 0) 8))) else (readR (rN (b, 0) 8), 0)
theorem getA_mark {b : List UInt8} (h : rB (b, 0) 8 ≠ markL) : getA b = (zeroA, 9) := by unfold getA; rw [if_pos h]
theorem getA_code {b : List UInt8} (h : ¬ rB (b, 0) 8 ≠ markL) (h2 : (restR (rN (b, 0) 8)).2 ≠ 0) : getA b = (zeroA, (restR (rN (b, 0) 8)).2) := by unfold getA; rw [if_neg h, if_pos h2]
theorem getA_chk {b : List UInt8} (h : ¬ rB (b, 0) 8 ≠ markL) (h2 : ¬ (restR (rN (b, 0) 8)).2 ≠ 0) (h3 : chkA (readR (rN (b, 0) 8)) ≠ 0) : getA b = (zeroA, chkA (readR (rN (b, 0) 8))) := by unfold getA; rw [if_neg h, if_neg h2, if_pos h3]
theorem getA_ok {b : List UInt8} (h : ¬ rB (b, 0) 8 ≠ markL) (h2 : ¬ (restR (rN (b, 0) 8)).2 ≠ 0) (h3 : ¬ chkA (readR (rN (b, 0) 8)) ≠ 0) : getA b = (readR (rN (b, 0) 8), 0) := by unfold getA; rw [if_neg h, if_neg h2, if_neg h3]
/-- What is read is an anchor that may be, or none. -/
theorem getA_seq (b : List UInt8) : (getA b).2 = 0 ∧ chkA (getA b).1 = 0 ∧ 1 ≤ (getA b).1.seq ∨ ¬ (getA b).2 = 0 ∧ (getA b).1 = zeroA := by
  unfold getA
  split
  · exact Or.inr ⟨by decide, rfl⟩
  · split
    · rename_i h
      exact Or.inr ⟨h, rfl⟩
    · split
      · rename_i h
        exact Or.inr ⟨h, rfl⟩
      · rename_i h
        have h0 : chkA (readR (rN (b, 0) 8)) = 0 := Classical.not_not.1 h
        exact Or.inl ⟨rfl, h0, (chkA_ok h0).1.1.1⟩

/-- Reading what was put ahead. -/
theorem rB_app (x y : List UInt8) : rB (x ++ y, 0) (x.length : Nat) = x ∧ rN (x ++ y, 0) (x.length : Nat) = (y, 0) := by
  unfold rB rN rdBytes
  dsimp only
  rw [if_neg (by simp), if_neg (by rw [List.length_append]; omega)]
  simp
theorem rB_app' {x y : List UInt8} {n : Nat} (h : x.length = n) : rB (x ++ y, 0) (n : Nat) = x ∧ rN (x ++ y, 0) (n : Nat) = (y, 0) := by
  subst h
  exact rB_app x y
theorem rV_put {n s : Nat} {y : List UInt8} (hs : n < 256 ^ s) (hz : n < 18446744073709551616) : rV (putL n s ++ y, 0) (s : Nat) = n ∧ rN (putL n s ++ y, 0) (s : Nat) = (y, 0) := by
  obtain ⟨h1, h2⟩ := rB_app' (y := y) (putL_length s n)
  refine ⟨?_, h2⟩
  unfold rV
  rw [h1, getN_putL, Nat.mod_eq_of_lt hs, Nat.mod_eq_of_lt hz]
theorem cap62_small {n : Nat} (h : n ≤ 1099511627777) : cap62 n = (n : Int) := by unfold cap62; rw [if_neg (by omega)]
theorem rNs_succ : ∀ (n : Nat) (s : RdS), rNs (n + 1) s = rNs n (rN s 8)
  | 0, _ => rfl
  | n + 1, s => by
    show rN (rNs (n + 1) s) 8 = rN (rNs n (rN s 8)) 8
    rw [rNs_succ n s]
theorem nums_back : ∀ (l : List Int) (y : List UInt8), (∀ n ∈ l, 0 ≤ n ∧ n ≤ 1099511627777) → (∀ i n, l[i]? = some n → numR (numsL l ++ y, 0) i = n) ∧ rNs l.length (numsL l ++ y, 0) = (y, 0)
  | [], y, _ => ⟨fun i n h => by simp at h, rfl⟩
  | m :: l, y, h => by
    have hm := h m (by simp)
    have e : numsL (m :: l) ++ y = putL m.toNat 8 ++ (numsL l ++ y) := by
      unfold numsL
      rw [List.map_cons, List.flatten_cons, List.append_assoc]
    obtain ⟨p1, p2⟩ := rV_put (n := m.toNat) (s := 8) (y := numsL l ++ y) (by rw [show (256 : Nat) ^ 8 = 18446744073709551616 from by decide]; omega) (by omega)
    obtain ⟨q1, q2⟩ := nums_back l y fun n hn => h n (by simp [hn])
    rw [e]
    refine ⟨fun i n hi => ?_, ?_⟩
    · cases i with
      | zero =>
        simp at hi
        subst hi
        unfold numR
        show cap62 (rV (putL m.toNat 8 ++ (numsL l ++ y), 0) ((8 : Nat) : Int)) = m
        rw [p1, cap62_small (by omega)]
        omega
      | succ i =>
        have := q1 i n (by simpa using hi)
        unfold numR at this ⊢
        rw [rNs_succ]
        show cap62 (rV (rNs i (rN (putL m.toNat 8 ++ (numsL l ++ y), 0) ((8 : Nat) : Int))) 8) = n
        rw [p2]
        exact this
    · rw [List.length_cons, rNs_succ]
      show rNs l.length (rN (putL m.toNat 8 ++ (numsL l ++ y), 0) ((8 : Nat) : Int)) = _
      rw [p2]
      exact q2
theorem rKs_succ : ∀ (n : Nat) (s : RdS), rKs (n + 1) s = rKs n (rK s)
  | 0, _ => rfl
  | n + 1, s => by
    show rK (rKs (n + 1) s) = rK (rKs n (rK s))
    rw [rKs_succ n s]
theorem keksR_succ : ∀ (n : Nat) (s : RdS), keksR (n + 1) s = kekR s :: keksR n (rK s)
  | 0, _ => rfl
  | n + 1, s => by
    show keksR (n + 1) s ++ [kekR (rKs (n + 1) s)] = kekR s :: (keksR n (rK s) ++ [kekR (rKs n (rK s))])
    rw [keksR_succ n s, rKs_succ]
    rfl
theorem keksR_len : ∀ (n : Nat) (s : RdS), (keksR n s).length = n
  | 0, _ => rfl
  | n + 1, s => by
    show (keksR n s ++ [kekR (rKs n s)]).length = n + 1
    rw [List.length_append, keksR_len n s]
    rfl
theorem kek_back {k : KekS} (h : chkK k = 0) (y : List UInt8) : kekR (kekL k ++ y, 0) = k ∧ rK (kekL k ++ y, 0) = (y, 0) := by
  obtain ⟨⟨h1, h2, h3, h4⟩, h5⟩ := chkK_ok h
  have e : kekL k ++ y = putL k.bucket.toNat 2 ++ (putL k.gen.toNat 2 ++ (k.key ++ y)) := by
    unfold kekL
    simp only [List.append_assoc]
  have p2 : (256 : Nat) ^ 2 = 65536 := by decide
  obtain ⟨a1, a2⟩ := rV_put (n := k.bucket.toNat) (s := 2) (y := putL k.gen.toNat 2 ++ (k.key ++ y)) (by omega) (by omega)
  obtain ⟨b1, b2⟩ := rV_put (n := k.gen.toNat) (s := 2) (y := k.key ++ y) (by omega) (by omega)
  obtain ⟨c1, c2⟩ := rB_app' (y := y) h5
  rw [e]
  unfold kekR rK
  rw [show (2 : Int) = ((2 : Nat) : Int) from rfl, show (32 : Int) = ((32 : Nat) : Int) from rfl, a1, a2, b1, b2, c1, c2]
  refine ⟨?_, rfl⟩
  obtain ⟨kb, kg, kk⟩ := k
  dsimp only at *
  rw [show ((kb.toNat : Nat) : Int) = kb from by omega, show ((kg.toNat : Nat) : Int) = kg from by omega]
theorem keks_back : ∀ {l : List KekS}, chkKs l = 0 → ∀ y, keksR l.length ((l.map kekL).flatten ++ y, 0) = l ∧ rKs l.length ((l.map kekL).flatten ++ y, 0) = (y, 0)
  | [], _, y => ⟨rfl, rfl⟩
  | k :: l, h, y => by
    have h1 := chkKs_all h k (by simp)
    have h2 : chkKs l = 0 := by
      unfold chkKs at h
      rw [if_pos h1] at h
      exact h
    obtain ⟨a1, a2⟩ := kek_back h1 ((l.map kekL).flatten ++ y)
    obtain ⟨b1, b2⟩ := keks_back h2 y
    rw [List.map_cons, List.flatten_cons, List.append_assoc, List.length_cons, keksR_succ, rKs_succ, a1, a2, b1, b2]
    exact ⟨rfl, rfl⟩
/-- THERE AND BACK. -/
theorem getA_back {a : AncS} (h : chkA a = 0) (y : List UInt8) : getA (ancL a ++ y) = (a, 0) := by
  obtain ⟨⟨n1, n2, n3, n4⟩, ⟨b1, b2⟩, hm, hk, hks⟩ := chkA_ok h
  obtain ⟨z, hz⟩ : ∃ z, z = numsL (nums a) ++ (a.master ++ (putL a.keks.length 1 ++ ((a.keks.map kekL).flatten ++ y))) := ⟨_, rfl⟩
  have e : ancL a ++ y = markL ++ z := by
    rw [hz]
    unfold ancL
    simp only [List.append_assoc]
  obtain ⟨m1, m2⟩ := rB_app' (x := markL) (y := z) (n := 8) rfl
  obtain ⟨s1, s2⟩ := nums_back (nums a) (a.master ++ (putL a.keks.length 1 ++ ((a.keks.map kekL).flatten ++ y))) (by
    intro n hn
    simp only [nums, List.mem_cons, List.not_mem_nil, or_false] at hn
    rcases hn with rfl | rfl | rfl | rfl | rfl | rfl <;> omega)
  rw [← hz] at s1 s2
  obtain ⟨t1, t2⟩ := rB_app' (y := putL a.keks.length 1 ++ ((a.keks.map kekL).flatten ++ y)) hm
  obtain ⟨u1, u2⟩ := rV_put (n := a.keks.length) (s := 1) (y := (a.keks.map kekL).flatten ++ y) (by omega) (by omega)
  obtain ⟨v1, v2⟩ := keks_back hks y
  have e6 : rNs 6 (z, 0) = (a.master ++ (putL a.keks.length 1 ++ ((a.keks.map kekL).flatten ++ y)), 0) := s2
  have e32 : s32 (z, 0) = (putL a.keks.length 1 ++ ((a.keks.map kekL).flatten ++ y), 0) := by
    unfold s32
    rw [e6]
    exact t2
  have ec : sCnt (z, 0) = a.keks.length := by
    unfold sCnt
    rw [e32]
    exact u1
  have ek : sKek (z, 0) = ((a.keks.map kekL).flatten ++ y, 0) := by
    unfold sKek
    rw [e32]
    exact u2
  have er : restR (z, 0) = (y, 0) := by
    unfold restR
    rw [ec, ek, v2]
  have hr : readR (z, 0) = a := by
    have k3 := s1 3 (a.root + 1) rfl
    unfold readR headR
    rw [s1 0 a.seq rfl, s1 1 a.epoch rfl, s1 2 a.given rfl, k3, s1 4 a.rootEpoch rfl, s1 5 a.pending rfl, e6, ec, ek, v1]
    rw [show rB (a.master ++ (putL a.keks.length 1 ++ ((a.keks.map kekL).flatten ++ y)), 0) 32 = a.master from t1, Int.add_sub_cancel]
  have m2' : rN (markL ++ z, 0) 8 = (z, 0) := m2
  have m1' : rB (markL ++ z, 0) 8 = markL := m1
  rw [e, getA_ok (by rw [m1']; simp) (by rw [m2', er]; simp) (by rw [m2', hr, h]; simp), m2', hr]
theorem getA_fit {a : AncS} (h : chkA a = 0) : getA (fitK (ancL a)) = (a, 0) := by
  rw [fitK_eq (by have := ancL_le h; omega)]
  exact getA_back h _
theorem getA_zero : getA z1k = (zeroA, 9) := by
  refine getA_mark ?_
  unfold rB rdBytes
  dsimp only
  rw [if_neg (by simp), if_neg (by rw [z1k_length]; decide)]
  decide

/-- Are two the same? -/
def sameK (a b : KekS) : Bool := decide (a.bucket = b.bucket) && (decide (a.gen = b.gen) && decide (a.key = b.key))
def sameKs : List KekS → List KekS → Bool
  | [], [] => true
  | a :: l, b :: m => sameK a b && sameKs l m
  | [], _ :: _ => false
  | _ :: _, [] => false
def sameNs (a b : AncS) : Bool := decide (a.seq = b.seq) && (decide (a.epoch = b.epoch) && (decide (a.given = b.given) && (decide (a.root = b.root) && (decide (a.rootEpoch = b.rootEpoch) && decide (a.pending = b.pending)))))
def sameA (a b : AncS) : Bool := sameNs a b && (decide (a.master = b.master) && sameKs a.keks b.keks)
theorem sameK_refl (a : KekS) : sameK a a = true := by simp [sameK]
theorem sameKs_refl : ∀ l, sameKs l l = true
  | [] => rfl
  | a :: l => by simp [sameKs, sameK_refl, sameKs_refl l]
theorem sameA_refl (a : AncS) : sameA a a = true := by simp [sameA, sameNs, sameKs_refl]
theorem sameKs_len : ∀ {l m : List KekS}, l.length ≠ m.length → sameKs l m = false
  | [], [], h => absurd rfl h
  | a :: l, b :: m, h => by
    unfold sameKs
    rw [sameKs_len (l := l) (m := m) (by simpa using h)]
    simp
  | [], _ :: _, _ => rfl
  | _ :: _, [], _ => rfl
theorem sameKs_drop {l m : List KekS} {k : Nat} {x y : KekS} (hx : l[k]? = some x) (hy : m[k]? = some y) : sameKs (l.drop k) (m.drop k) = (sameK x y && sameKs (l.drop (k + 1)) (m.drop (k + 1))) := by
  have h1 : k < l.length := (List.getElem?_eq_some_iff.1 hx).1
  have h2 : k < m.length := (List.getElem?_eq_some_iff.1 hy).1
  rw [List.getElem?_eq_getElem h1] at hx
  rw [List.getElem?_eq_getElem h2] at hy
  rw [List.drop_eq_getElem_cons h1, List.drop_eq_getElem_cons h2, Option.some.inj hx, Option.some.inj hy]
  rfl

/-- A keeper: a cell, and the anchor that counts (of number 0: none does). -/
structure KepS where
  c : CelS
  last : AncS
def pickA (a b : AncS) : AncS := if a.seq < b.seq then b else a
/-- The anchor that is found in a cell. -/
def openA (c : CelS) : AncS := pickA (getA (c.l.getD 0 [])).1 (getA (c.l.getD 1 [])).1
def KepS.has (K : KepS) : Bool := decide (0 < K.last.seq)
def nextA (K : KepS) (a : AncS) : AncS := { a with seq := K.last.seq + 1 }
def KepS.put (K : KepS) (a : AncS) : CelS × Int := K.c.write ((nextA K a).seq % 2) (ancL (nextA K a))
def KepS.save (K : KepS) (a : AncS) : KepS × Int := if chkA (nextA K a) ≠ 0 then (K, chkA (nextA K a)) else if (K.put a).2 ≠ 0 then (⟨(K.put a).1, K.last⟩, (K.put a).2) else (⟨(K.put a).1, nextA K a⟩, 0)
def KepS.given (K : KepS) : AncS := { K.last with given := K.last.given + 1 }
def KepS.give (K : KepS) : KepS × Int × Int := if K.has = false then (K, 0, 9) else if (K.save K.given).2 ≠ 0 then ((K.save K.given).1, 0, (K.save K.given).2) else ((K.save K.given).1, K.last.given + 1, 0)
def KepS.committed (K : KepS) (e r p : Int) : AncS := { K.last with epoch := e, root := r, rootEpoch := e, pending := p }
def KepS.commit (K : KepS) (e r p : Int) : KepS × Int := if K.has = false ∨ e ≤ K.last.epoch ∨ K.last.given < e then (K, 15) else K.save (K.committed e r p)
def KepS.cleaned (K : KepS) : AncS := { K.last with pending := 0 }
def KepS.clean (K : KepS) : KepS × Int := if K.has = false then (K, 9) else K.save K.cleaned
theorem KepS.save_chk {K : KepS} {a : AncS} (h : chkA (nextA K a) ≠ 0) : K.save a = (K, chkA (nextA K a)) := by unfold KepS.save; rw [if_pos h]
theorem KepS.save_put {K : KepS} {a : AncS} (h : chkA (nextA K a) = 0) (h2 : (K.put a).2 ≠ 0) : K.save a = (⟨(K.put a).1, K.last⟩, (K.put a).2) := by unfold KepS.save; rw [if_neg (by rw [h]; simp), if_pos h2]
theorem KepS.save_ok {K : KepS} {a : AncS} (h : chkA (nextA K a) = 0) (h2 : (K.put a).2 = 0) : K.save a = (⟨(K.put a).1, nextA K a⟩, 0) := by unfold KepS.save; rw [if_neg (by rw [h]; simp), if_neg (by rw [h2]; simp)]
/-- An anchor that may be, or none. -/
def okA (a : AncS) : Prop := chkA a = 0 ∨ a = zeroA
theorem okA.seq {a : AncS} (h : okA a) : 0 ≤ a.seq ∧ a.seq ≤ 1099511627776 := by
  rcases h with h | rfl
  · have := (chkA_ok h).1.1
    omega
  · decide
theorem okA.given {a : AncS} (h : okA a) : 0 ≤ a.given ∧ a.given ≤ 1099511627776 := by
  rcases h with h | rfl
  · exact (chkA_ok h).1.2.1
  · decide
theorem okA.small {a : AncS} (h : okA a) : a.master.length ≤ 32 ∧ a.keks.length ≤ 16 ∧ ∀ k ∈ a.keks, k.key.length ≤ 32 := by
  rcases h with h | rfl
  · obtain ⟨_, _, h3, h4, h5⟩ := chkA_ok h
    exact ⟨by omega, h4, fun k hk => by have := (chkK_ok (chkKs_all h5 k hk)).2; omega⟩
  · exact ⟨by decide, by decide, fun k hk => by cases hk⟩
theorem okA_get (b : List UInt8) : okA (getA b).1 := by
  rcases getA_seq b with h | h
  · exact Or.inl h.2.1
  · exact Or.inr h.2
theorem okA_open (c : CelS) : okA (openA c) := by
  unfold openA pickA
  split
  · exact okA_get _
  · exact okA_get _
theorem KepS.okA_save {K : KepS} (h : okA K.last) (a : AncS) : okA (K.save a).1.last := by
  unfold KepS.save
  split
  · exact h
  · rename_i h1
    split
    · exact h
    · exact Or.inl (Classical.not_not.1 h1)
theorem KepS.fit_save {K : KepS} {m : Nat} (h : K.c.fit m) (a : AncS) : (K.save a).1.c.fit (m + 1) := by
  unfold KepS.save
  split
  · exact h.mono (by omega)
  · split
    · exact h.a_write _ _
    · exact h.a_write _ _

end Go.Proofs.Ytbifikeecmaakaa

/-
  Regions that draw their order, with calls and new variables in them: a call whose answer is known, and which only makes memory, may be taken first, if all that follows is shown in every world that has grown. No condition; no statement of the seat is proved here.
-/
namespace Go.Proofs.Ytbifikeecmaakaa
open Go.RowKit


/-- The world has only grown. -/
def Grows (w w' : World) : Prop := Below w.heap.size w w'
theorem Grows.refl (w : World) : Grows w w := Below.refl _ _
theorem Grows.trans {a b c : World} (h : Grows a b) (k : Grows b c) : Grows a c := Below.trans h (Below.mono k (Below.size h))

/-- What another operation does to a state in which this one's answer lies already, it does to the state in which it does not lie yet. -/
theorem other_first {P : Program} {ops : Array Oper} {Q : Exit → Act → World → Prop} {j : Nat} {oi oj : Oper} {v : Value} (hj : ops[j]? = some oj) (hap : oi.apart ops oj = true) (hsi : ∀ cs b, oi.op ≠ .select cs b) (hsj : ∀ cs b, oj.op ≠ .select cs b)
    (hQ : ∀ c a w, Q (.panic c) (a.put oi.dst v) w → Q (.panic c) a w) {K : Act → World → Prop} {a : Act} {w : World} (h : wpOp P ops Q j K (a.put oi.dst v) w) :
    wpOp P ops Q j (fun a' w' => (execOp a'.eval oi = execOp a.eval oi ∧ Region.wanted oi (yielded ops a'.tmps) = Region.wanted oi (yielded ops a.tmps)) ∧ K (a'.put oi.dst v) w') a w := by
  obtain ⟨h1, h2, h3⟩ := Oper.apart_spec hap
  have kp : ∀ (b : Act), (execOp b.eval oi = execOp a.eval oi ∧ Region.wanted oi (yielded ops b.tmps) = Region.wanted oi (yielded ops a.tmps)) → ∀ u, execOp (b.put oj.dst u).eval oi = execOp a.eval oi ∧ Region.wanted oi (yielded ops (b.put oj.dst u).tmps) = Region.wanted oi (yielded ops a.tmps) :=
    fun b hb u => ⟨(execOp_put oi hsi b oj.dst u h3).trans hb.1, (wanted_put oi b oj.dst u h3).trans hb.2⟩
  have k0 := kp a ⟨rfl, rfl⟩
  have sw : ∀ (b : Act) u, (b.put oj.dst u).put oi.dst v = (b.put oi.dst v).put oj.dst u := fun b u => (Act.put_comm b v u h2).symm
  have e1 := execOp_put oj hsj a oi.dst v h1
  have e2 := wanted_put oj a oi.dst v h1
  revert h
  unfold wpOp
  simp only [hj, e2]
  by_cases hw : Region.wanted oj (yielded ops a.tmps) = true
  · simp only [hw, if_true]
    rintro (h | ⟨ha, hl⟩)
    · left
      revert h
      unfold Oper.wp
      rw [e1]
      cases (execOp a.eval oj).run P w with
      | halt x w' =>
        intro h
        cases x
        case panic u => exact hQ _ _ _ h
        all_goals exact h
      | ok n w' =>
        intro h
        cases n with
        | value u => exact ⟨k0 u, by rw [sw]; exact h⟩
        | skip => exact ⟨k0 _, by rw [sw]; exact h⟩
        | defer d => exact ⟨kp { a with defers := d :: a.defers } ⟨rfl, rfl⟩ _, by rw [sw, ← Act.put_defers]; exact h⟩
        | enter f args =>
          refine Calls.mono h fun e w'' he => ?_
          cases e with
          | returned u => exact ⟨k0 u, by rw [sw]; exact he⟩
          | panicked c => exact hQ _ _ _ he
          | outgrown => exact he
        | row r args => exact Rows.mono h fun u w'' he => ⟨k0 u, by rw [sw]; exact he⟩
        | _ => exact h
    · right
      refine ⟨?_, hl⟩
      unfold Oper.asks at *
      rw [e1] at ha
      exact ha
  · rw [Bool.not_eq_true] at hw
    simp only [hw, Bool.false_eq_true, if_false]
    intro h
    exact ⟨k0 _, by rw [sw]; exact h⟩


/-- In every world that meets S the operation answers v, and the world has only grown. -/
def Ans (P : Program) (ops : Array Oper) (S : World → Prop) (o : Oper) (v : Value) (a : Act) : Prop :=
  (Region.wanted o (yielded ops a.tmps) = true ∧ ∀ w, S w → (execOp a.eval o).run P w = .ok (.value v) w ∨ ∃ f args, (execOp a.eval o).run P w = .ok (.enter f args) w ∧ Calls P f args w fun e w' => e = .returned v ∧ Grows w w' ∧ S w') ∨
  (Region.wanted o (yielded ops a.tmps) = false ∧ v = undef)
theorem Ans.same {P : Program} {ops : Array Oper} {S : World → Prop} {o : Oper} {v : Value} {a b : Act} (h : Ans P ops S o v a) (he : execOp b.eval o = execOp a.eval o ∧ Region.wanted o (yielded ops b.tmps) = Region.wanted o (yielded ops a.tmps)) : Ans P ops S o v b := by
  unfold Ans at *
  rw [he.1, he.2]
  exact h
theorem Ans.op {P : Program} {ops : Array Oper} {Q : Exit → Act → World → Prop} {S : World → Prop} {i : Nat} {o : Oper} {v : Value} {a : Act} (hi : ops[i]? = some o) (h : Ans P ops S o v a) {K : Act → World → Prop} {w : World} (hS : S w) (k : ∀ w', Grows w w' → S w' → K (a.put o.dst v) w') : wpOp P ops Q i K a w := by
  unfold wpOp
  simp only [hi]
  rcases h with ⟨hw, hv⟩ | ⟨hw, rfl⟩
  · simp only [hw, if_true]
    left
    unfold Oper.wp
    rcases hv w hS with e | ⟨f, args, e, hc⟩
    · rw [e]
      exact k w (Grows.refl w) hS
    · rw [e, Oper.upon_enter]
      refine hc.mono ?_
      rintro e w' ⟨rfl, hg, hs⟩
      exact k w' hg hs
  · simp only [hw, Bool.false_eq_true, if_false]
    exact k w (Grows.refl w) hS

/-- Whatever order is picked from here on, in whatever world has grown of this one. -/
def wpAnyG (P : Program) (md : Region.Mode) (ops : Array Oper) (Q : Exit → Act → World → Prop) (S : World → Prop) : Nat → Array Bool → Act → World → Prop
  | 0, listed, a, w => Region.ready md ops listed = [] ∧ ∀ w', Grows w w' → S w' → Q .normal a w'
  | fuel + 1, listed, a, w => ∀ w', Grows w w' → S w' → (Region.ready md ops listed = [] → Q .normal a w') ∧
      ∀ i ∈ Region.ready md ops listed, wpOp P ops Q i (fun a' w'' => S w'' ∧ wpAnyG P md ops Q S fuel (listed.setIfInBounds i true) a' w'') a w'
theorem wpAnyG.grow {P : Program} {ops : Array Oper} {Q : Exit → Act → World → Prop} {md : Region.Mode} {S : World → Prop} {fuel : Nat} {listed : Array Bool} {a : Act} {w w1 : World} (h : wpAnyG P md ops Q S fuel listed a w) (hg : Grows w w1) : wpAnyG P md ops Q S fuel listed a w1 := by
  cases fuel with
  | zero => exact ⟨h.1, fun w' hw hs => h.2 w' (hg.trans hw) hs⟩
  | succ fuel => exact fun w' hw hs => h w' (hg.trans hw) hs
theorem wpAnyG.any {P : Program} {ops : Array Oper} {Q : Exit → Act → World → Prop} {md : Region.Mode} {S : World → Prop} : ∀ (fuel : Nat) (listed : Array Bool) (a : Act) (w : World), S w → wpAnyG P md ops Q S fuel listed a w → wpAny P md ops Q fuel listed a w
  | 0, _, _, w, hS, h => ⟨h.1, h.2 w (Grows.refl w) hS⟩
  | fuel + 1, _, _, w, hS, h => by
    obtain ⟨h1, h2⟩ := h w (Grows.refl w) hS
    exact ⟨h1, fun i hi => wpOp_mono (fun a' w' hh => wpAnyG.any fuel _ a' w' hh.1 hh.2) (h2 i hi)⟩

theorem firstG {P : Program} {ops : Array Oper} {Q : Exit → Act → World → Prop} {md : Region.Mode} {S : World → Prop} {i : Nat} {oi : Oper} {v : Value} (hi : ops[i]? = some oi) (hsel : ∀ (j : Nat) (o : Oper) cs b, ops[j]? = some o → o.op ≠ .select cs b) (hQ : ∀ c a w, Q (.panic c) (a.put oi.dst v) w → Q (.panic c) a w) :
    ∀ (fuel : Nat) (listed : Array Bool) (a : Act) (w : World),
      (∀ j oj, ops[j]? = some oj → j ≠ i → listed.getD j true = false → (∀ e ∈ oj.after, Region.binds md e = true → e.on ≠ i) → oi.apart ops oj = true) →
      i ∈ Region.ready md ops listed → Ans P ops S oi v a → wpAnyG P md ops Q S fuel (listed.setIfInBounds i true) (a.put oi.dst v) w → wpAnyG P md ops Q S (fuel + 1) listed a w := by
  intro fuel
  induction fuel with
  | zero =>
    intro listed a w _ hr hy H w' hg hS
    refine ⟨fun h => (by rw [h] at hr; cases hr), fun j hj => ?_⟩
    by_cases e : j = i
    · rw [e]
      exact hy.op hi hS fun w'' hg' hs => ⟨hs, H.1, fun w3 h3 hs3 => H.2 w3 (hg.trans (hg'.trans h3)) hs3⟩
    · have := ready_mono hj e
      rw [H.1] at this
      cases this
  | succ fuel ih =>
    intro listed a w hfree hr hy H w' hg hS
    refine ⟨fun h => (by rw [h] at hr; cases hr), fun j hj => ?_⟩
    by_cases e : j = i
    · rw [e]
      exact hy.op hi hS fun w'' hg' hs => ⟨hs, wpAnyG.grow H (hg.trans hg')⟩
    · obtain ⟨hun, oj, hoj, hall⟩ := mem_ready.1 hj
      have hno : ∀ e ∈ oj.after, Region.binds md e = true → e.on ≠ i := fun x hx hb hxi => by
        have h1 := hall x hx hb
        have h0 := (mem_ready.1 hr).1
        rw [hxi] at h1
        rcases Nat.lt_or_ge i listed.size with hl | hl
        · simp [hl] at h0 h1
          rw [h0] at h1
          cases h1
        · simp [Array.getElem?_eq_none hl] at h1
      have hk := other_first hoj (hfree j oj hoj e hun hno) (fun cs b => hsel i oi cs b hi) (fun cs b => hsel j oj cs b hoj) hQ ((H w' hg hS).2 j (ready_mono hj e))
      refine wpOp_mono (fun a' w'' hh => ⟨hh.2.1, ih (listed.setIfInBounds j true) a' w'' ?_ (ready_mono hr (Ne.symm e)) (hy.same hh.1) ?_⟩) hk
      · intro k ok hk hki hun' hno'
        refine hfree k ok hk hki ?_ hno'
        by_cases hjk : j = k
        · rw [← hjk]; exact hun
        · rw [getD_set_ne true hjk] at hun'; exact hun'
      · rw [Array.setIfInBounds_comm _ _ e]
        exact hh.2.2

/-- Take number i first. -/
theorem takeG {P : Program} {ops : Array Oper} {Q : Exit → Act → World → Prop} {md : Region.Mode} {S : World → Prop} (i : Nat) (d : Option Tmp) (v : Value) {oi : Oper} {fuel : Nat} {listed : Array Bool} {a : Act} {w : World} (hi : ops[i]? = some oi) (hd : oi.dst = d)
    (hs : Region.noSelect ops = true) (hf : Region.free md ops listed i = true) (hr : (Region.ready md ops listed).contains i = true)
    (hQ : ∀ c a w, Q (.panic c) (a.put d v) w → Q (.panic c) a w) (hy : Ans P ops S oi v a)
    (h : wpAnyG P md ops Q S fuel (listed.setIfInBounds i true) (a.put d v) w) : wpAnyG P md ops Q S (fuel + 1) listed a w := by
  subst hd
  exact firstG hi (Region.noSelect_spec hs) hQ fuel listed a w (Region.free_spec hi hf) (by simpa using hr) hy h
/-- What only reckons. -/
theorem ans_plain {P : Program} {ops : Array Oper} {S : World → Prop} {oi : Oper} {v : Value} {a : Act} (hw : Region.wanted oi (yielded ops a.tmps) = true) (h : ∀ w, S w → (execOp a.eval oi).run P w = .ok (.value v) w) : Ans P ops S oi v a :=
  Or.inl ⟨hw, fun w hS => Or.inl (h w hS)⟩
/-- A call. -/
theorem ans_call {P : Program} {ops : Array Oper} {S : World → Prop} (f : FuncId) (args : Array Operand) (tys : Array TypeId) (vs : Array Value) {oi : Oper} {v : Value} {a : Act} (ho : oi.op = .call { callee := .value (.func f), args := args, argTypes := tys }) (hw : Region.wanted oi (yielded ops a.tmps) = true) (hv : (args.toList.map a.eval).toArray = vs)
    (hc : ∀ vs w, (callFunc f vs).run P w = .ok (.enter f vs) w) (h : ∀ w, S w → Calls P f vs w fun e w' => e = .returned v ∧ Grows w w' ∧ S w') : Ans P ops S oi v a := by
  have hv' : args.map a.eval = vs := by rw [← hv]; apply Array.toList_inj.1; rw [Array.toList_map]
  subst hv'
  refine Or.inl ⟨hw, fun w hS => Or.inr ⟨f, args.map a.eval, ?_, h w hS⟩⟩
  simp [execOp, ho, resolve, invoke, Act.eval, Deferred.ofValue, hc]
/-- The one that may come up. -/
theorem oneG {P : Program} {ops : Array Oper} {Q : Exit → Act → World → Prop} {md : Region.Mode} {S : World → Prop} (i : Nat) {fuel : Nat} {listed : Array Bool} {a : Act} {w : World} (hr : Region.ready md ops listed = [i])
    (h : ∀ w', Grows w w' → S w' → wpOp P ops Q i (fun a' w'' => S w'' ∧ wpAnyG P md ops Q S fuel (listed.setIfInBounds i true) a' w'') a w') : wpAnyG P md ops Q S (fuel + 1) listed a w :=
  fun w' hg hS => ⟨fun h0 => (by rw [h0] at hr; cases hr), fun j hj => by
    rw [hr] at hj
    rw [List.mem_singleton.1 hj]
    exact h w' hg hS⟩
theorem doneG {P : Program} {ops : Array Oper} {Q : Exit → Act → World → Prop} {md : Region.Mode} {S : World → Prop} {fuel : Nat} {listed : Array Bool} {a : Act} {w : World} (hr : Region.ready md ops listed = []) (h : ∀ w', Grows w w' → S w' → Q .normal a w') : wpAnyG P md ops Q S fuel listed a w := by
  cases fuel with
  | zero => exact ⟨hr, h⟩
  | succ fuel => exact fun w' hg hS => ⟨fun _ => h w' hg hS, fun j hj => by rw [hr] at hj; cases hj⟩
/-- The beginning. -/
theorem regionG {P : Program} {ops : Array Oper} {Q : Exit → Act → World → Prop} {S : World → Prop} {id : Nat} {a : Act} {w : World} (hm : P.follows .mixedOrders = true) (hS : S w.drew) (h : wpAnyG P .any ops Q S ops.size (Array.replicate ops.size false) a w.drew) : (Code.region id ops true).wp P Q a w :=
  wp_region_any hm (wpAnyG.any _ _ _ _ hS h)

/-- An operation that makes a variable. -/
def Makes (P : Program) (ops : Array Oper) (i : Nat) (d : Tmp) (cells : Array Value) (t : TypeId) : Prop :=
  ∃ o, ops[i]? = some o ∧ o.dst = some d ∧ o.guard = none ∧ ∀ (ρ : Operand → Value) (w : World), (execOp ρ o).run P w = .ok (.value (.pointer (some ⟨w.heap.size, 0, none⟩))) (w.alloc (.cells cells t))
theorem Makes.op {P : Program} {ops : Array Oper} {Q : Exit → Act → World → Prop} {i : Nat} {d : Tmp} {cells : Array Value} {t : TypeId} (h : Makes P ops i d cells t) {K : Act → World → Prop} {a : Act} {w : World} (k : K (a.put (some d) (.pointer (some ⟨w.heap.size, 0, none⟩))) (w.alloc (.cells cells t))) : wpOp P ops Q i K a w := by
  obtain ⟨o, hi, hd, hg, hx⟩ := h
  unfold wpOp
  simp only [hi]
  rw [if_pos (by simp [Region.wanted, hg])]
  left
  unfold Oper.wp
  rw [hx, Oper.upon_value, hd]
  exact k
theorem ans_eqB {ops : Array Oper} {S : World → Prop} {oi : Oper} {a : Act} (x y : Operand) (ho : oi.op = .binOp .eql 4 x y 4) (hw : Region.wanted oi (yielded ops a.tmps) = true) (p : Bool) (hx : a.eval x = .bool p) (hy : a.eval y = .bool p) : Ans Try.prog ops S oi (.bool true) a := by
  refine ans_plain hw fun w hS => ?_
  unfold execOp
  simp only [ho, hx, hy]
  go_simp
/-- A call that only makes memory, in whatever world has grown of W. -/
theorem ans_fn {ops : Array Oper} {W : World} {oi : Oper} {a : Act} (f : FuncId) (args : Array Operand) (tys : Array TypeId) (vs : Array Value) {v : Value} (ho : oi.op = .call { callee := .value (.func f), args := args, argTypes := tys }) (hw : Region.wanted oi (yielded ops a.tmps) = true) (hv : (args.toList.map a.eval).toArray = vs)
    (hc : ∀ vs w, (callFunc f vs).run Try.prog w = .ok (.enter f vs) w) (h : ∀ w, Grows W w → Calls Try.prog f vs w fun e w' => e = .returned v ∧ Below w.heap.size w w') : Ans Try.prog ops (Grows W) oi v a :=
  ans_call f args tys vs ho hw hv hc fun w hg => (h w hg).mono fun _ _ h2 => ⟨h2.1, h2.2, Grows.trans hg h2.2⟩
/-- A call whose answer lies in new memory: the one that may come up. -/
theorem callG {ops : Array Oper} {Q : Exit → Act → World → Prop} {md : Region.Mode} {S : World → Prop} (i : Nat) (d : Option Tmp) (f : FuncId) (args : Array Operand) (tys : Array TypeId) (vs : Array Value) {oi : Oper} {fuel : Nat} {listed : Array Bool} {a : Act} {w : World} (hi : ops[i]? = some oi) (hd : oi.dst = d)
    (ho : oi.op = .call { callee := .value (.func f), args := args, argTypes := tys }) (hw : Region.wanted oi (yielded ops a.tmps) = true) (hv : (args.toList.map a.eval).toArray = vs) (hr : Region.ready md ops listed = [i]) (hc : ∀ vs w, (callFunc f vs).run Try.prog w = .ok (.enter f vs) w)
    (h : ∀ w', Grows w w' → S w' → Calls Try.prog f vs w' fun e w'' => ∃ v, e = .returned v ∧ S w'' ∧ wpAnyG Try.prog md ops Q S fuel (listed.setIfInBounds i true) (a.put d v) w'') : wpAnyG Try.prog md ops Q S (fuel + 1) listed a w := by
  subst hd
  have hv' : args.map a.eval = vs := by rw [← hv]; apply Array.toList_inj.1; rw [Array.toList_map]
  subst hv'
  refine oneG i hr fun w' hg hS => ?_
  unfold wpOp
  simp only [hi]
  rw [if_pos hw]
  left
  unfold Oper.wp
  have hx : (execOp a.eval oi).run Try.prog w' = .ok (.enter f (args.map a.eval)) w' := by simp [execOp, ho, resolve, invoke, Act.eval, Deferred.ofValue, hc]
  rw [hx, Oper.upon_enter]
  refine (h w' hg hS).mono ?_
  rintro e w'' ⟨v, rfl, hs, hh⟩
  exact ⟨hs, hh⟩

end Go.Proofs.Ytbifikeecmaakaa

/-
  Memory of an object: what was new, or was there ('Next'); what was not written stays ('BA.after'). No condition; no statement of the seat is proved here.
-/
namespace Go.Proofs.Ytbifikeecmaakaa
open Go.RowKit

/-- What was new, or was there. -/
def Next (w : World) (P P' : Nat → Prop) : Prop := ∀ j, P' j → P j ∨ w.heap.size ≤ j
theorem Next.of {w w1 : World} {P P' : Nat → Prop} (h : Next w1 P P') (hs : w.heap.size ≤ w1.heap.size) : Next w P P' := fun j hj => (h j hj).imp id fun h => Nat.le_trans hs h
theorem Kp.newer {F G : Nat → Prop} {w a b : World} (h : Kp F w a) (k : Kp G a b) (hG : ∀ j, G j → w.heap.size ≤ j) : Kp F w b :=
  ⟨k.os.trans h.os, k.tape.trans h.tape, k.output.trans h.output, Nat.le_trans h.size k.size, fun i hi hn => (k.block i (Nat.lt_of_lt_of_le hi h.size) (fun hg => by have := hG i hg; omega)).trans (h.block i hi hn)⟩
/-- What was not written stays, and is not written from then on. -/
theorem BA.after {F F' : Nat → Prop} {w w' : World} {p : Option Addr} {m q : Nat} {b : List UInt8} (h : BA (fun j => ¬ F j) w p m q b) (k : Kp F w w') (n : Next w F F') : BA (fun j => ¬ F' j) w' p m q b := by
  have h1 : BA (fun j => ¬ F j ∧ j < w.heap.size) w p m q b := h.mono fun j hj ha => ⟨ha, hj⟩
  refine (h1.keep k.size fun j hj ha => k.block j hj ha.1).mono fun j _ ha hF => ?_
  rcases n j hF with h | h
  · exact ha.1 h
  · have := ha.2
    omega
theorem BA.grow {A : Nat → Prop} {w w' : World} {p : Option Addr} {m q : Nat} {b : List UInt8} (h : BA A w p m q b) (k : Below w.heap.size w w') : BA A w' p m q b := h.keep k.size fun j hj _ => k.block j hj

end Go.Proofs.Ytbifikeecmaakaa
