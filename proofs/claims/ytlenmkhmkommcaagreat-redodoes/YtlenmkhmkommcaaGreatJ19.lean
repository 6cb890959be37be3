/-
  4 texts in one. No statement of the seat is proved here.
-/
import Derived.Test.YtlenmkhmkommcaaGreatJ18

/-
  Plain mathematics of layer 13: how many pieces a text has, which bytes a piece has, what stands beside it, and what sealing all of them, one behind the other, makes. No condition; nothing of the program.
-/
namespace Go.Proofs.YtlenmkhmkommcaaGreat
open Go.RowKit
set_option linter.unusedVariables false

/-- How many pieces a text of so many bytes has. -/
def cnt (n : Nat) : Nat := if n = 0 then 1 else (n + 495) / 496
/-- A piece. -/
def piece (t : List UInt8) (i : Nat) : List UInt8 := (t.drop (496 * i)).take 496
/-- How many bytes it has. -/
def plen (n i : Nat) : Nat := min 496 (n - 496 * i)
/-- What stands beside it. -/
def bes (what : List UInt8) (i : Nat) (last : Bool) : List UInt8 := packL [[99, 104, 117, 110, 107], what, putL i 4, [if last then 1 else 0]]
/-- Noughts behind, up to a block. -/
def pad (b : List UInt8) : List UInt8 := b ++ List.replicate (512 - b.length) 0
theorem pad_length {b : List UInt8} (h : b.length ≤ 512) : (pad b).length = 512 := by simp [pad]; omega
theorem pad_take {b : List UInt8} : (pad b).take b.length = b := by simp [pad]
/-- The key of a number. -/
def keyC (n : Nat) : List UInt8 := List.replicate 31 0 ++ [UInt8.ofNat n]
theorem keyC_length (n : Nat) : (keyC n).length = 32 := by simp [keyC]
/-- A long text. -/
def longB (b : List UInt8) (i : Nat) : UInt8 := if i < b.length then b.getD i 0 else UInt8.ofNat (i / 7)
def longL (b : List UInt8) (n : Nat) : List UInt8 := (List.range n).map (longB b)
/-- A sealer behind the first i pieces of a text of c pieces. -/
def chS (S : SeaS) (k what t : List UInt8) (c : Nat) : Nat → SeaS
  | 0 => S
  | i + 1 => (chS S k what t c i).seal k (nonL 0 i) (bes what i (decide (i + 1 = c))) (piece t i)
/-- What comes of piece i. -/
def chM (S : SeaS) (k what t : List UInt8) (c i : Nat) : List UInt8 := (chS S k what t c i).made k (nonL 0 i) (bes what i (decide (i + 1 = c))) (piece t i)
/-- The first i blocks. -/
def chB (S : SeaS) (k what t : List UInt8) (c : Nat) (i : Nat) : List (List UInt8) := (List.range i).map fun j => pad (chM S k what t c j)
end Go.Proofs.YtlenmkhmkommcaaGreat

/-
  Plain mathematics of layer 16: what a log of pages is, what noting, reading and applying pages makes of a disk and a sealer; what was noted is read as it was. No condition; nothing of the program.
-/
namespace Go.Proofs.YtlenmkhmkommcaaGreat
open Go.RowKit
set_option linter.unusedVariables false

/-- The head of pages: how many, and which. -/
def hedL (l : List Chg) : List UInt8 := putL l.length 2 ++ (l.map fun c => putL c.1.toNat 2).flatten
/-- What stands beside it. -/
def besR (e : Nat) : List UInt8 := packL [[108, 111, 103], putL e 8]
/-- Its nonce. -/
def nonR (e : Nat) : List UInt8 := nonL e 4294967295
/-- A page that may be noted. -/
abbrev okI (c : Chg) : Prop := 0 ≤ c.1 ∧ c.1 < 4096 ∧ c.2.length = 512
/-- Why pages can't be noted. -/
def chkL (l : List Chg) : Int := if 23 < l.length then 16 else if ∀ c ∈ l, okI c then 0 else 17
/-- Pages as they stand in the log, the head behind. -/
def logL (s : List UInt8) (l : List Chg) : List Chg := l.mapIdx (fun i c => ((i : Int) + 1, c.2)) ++ [(0, pad s)]
/-- Pages, written where they belong, and flushed: the first code. -/
def applyD : DskS → List Chg → DskS × Int
  | D, [] => (D.flushed, if D.p.ok then 0 else 5)
  | D, c :: l => if (D.write c.1 c.2).2 = 0 then applyD (D.write c.1 c.2).1 l else D.write c.1 c.2
/-- Blocks, read one by one, for pages. -/
def readD : DskS → Nat → List Chg → List Int → DskS × List Chg × Int
  | D, _, acc, [] => (D, acc, 0)
  | D, k, acc, p :: ps => if (D.read (k : Int)).2.2 = 0 then readD (D.read (k : Int)).1 (k + 1) (acc ++ [(p, (D.read (k : Int)).2.1)]) ps else ((D.read (k : Int)).1, [], (D.read (k : Int)).2.2)
/-- Which pages a head says. -/
def pagL (t : List UInt8) (n : Nat) : List Int := (List.range n).map fun i => (getN ((t.drop (2 + 2 * i)).take 2) : Int)
/-- Pages are noted. -/
def wrtD (D : DskS) (S : SeaS) (k : List UInt8) (e : Int) (l : List Chg) : DskS × Int :=
  if e < 0 then (D, 1) else if chkL l = 0 then applyD D (logL (S.made k (nonR e.toNat) (besR e.toNat) (hedL l)) l) else (D, chkL l)
def wrtS (S : SeaS) (k : List UInt8) (e : Int) (l : List Chg) : SeaS := if e < 0 then S else if chkL l = 0 then S.seal k (nonR e.toNat) (besR e.toNat) (hedL l) else S
/-- What is opened of the first block. -/
def opnR (D : DskS) (S : SeaS) (k : List UInt8) (e n : Int) : Option (List UInt8) := S.opens k (nonR e.toNat) (besR e.toNat) ((D.read 0).2.1.take (18 + 2 * n.toNat))
abbrev badR (e n : Int) : Prop := e < 0 ∨ n < 0 ∨ 23 < n
/-- Pages that were noted are read. -/
def redD (D : DskS) (S : SeaS) (k : List UInt8) (e n : Int) : DskS × List Chg × Int :=
  if badR e n then (D, [], 1) else if (D.read 0).2.2 = 0 then
    (match opnR D S k e n with
    | none => ((D.read 0).1, [], 6)
    | some t => if getN (t.take 2) = n.toNat then readD (D.read 0).1 1 [] (pagL t n.toNat) else ((D.read 0).1, [], 6))
  else ((D.read 0).1, [], (D.read 0).2.2)
def redS (D : DskS) (S : SeaS) (k : List UInt8) (e n : Int) : SeaS := if badR e n then S else if (D.read 0).2.2 = 0 then S.opened k (nonR e.toNat) (besR e.toNat) ((D.read 0).2.1.take (18 + 2 * n.toNat)) else S

theorem applyD_nil (D : DskS) : applyD D [] = (D.flushed, if D.p.ok then 0 else 5) := rfl
theorem applyD_ok {D : DskS} {c : Chg} {l : List Chg} (h : (D.write c.1 c.2).2 = 0) : applyD D (c :: l) = applyD (D.write c.1 c.2).1 l := by rw [applyD, if_pos h]
theorem applyD_not {D : DskS} {c : Chg} {l : List Chg} (h : ¬ (D.write c.1 c.2).2 = 0) : applyD D (c :: l) = D.write c.1 c.2 := by rw [applyD, if_neg h]
theorem readD_nil (D : DskS) (k : Nat) (acc : List Chg) : readD D k acc [] = (D, acc, 0) := rfl
theorem readD_ok {D : DskS} {k : Nat} {acc : List Chg} {p : Int} {ps : List Int} (h : (D.read (k : Int)).2.2 = 0) : readD D k acc (p :: ps) = readD (D.read (k : Int)).1 (k + 1) (acc ++ [(p, (D.read (k : Int)).2.1)]) ps := by rw [readD, if_pos h]
theorem readD_not {D : DskS} {k : Nat} {acc : List Chg} {p : Int} {ps : List Int} (h : ¬ (D.read (k : Int)).2.2 = 0) : readD D k acc (p :: ps) = ((D.read (k : Int)).1, [], (D.read (k : Int)).2.2) := by rw [readD, if_neg h]
theorem pagL_length (t : List UInt8) (n : Nat) : (pagL t n).length = n := by simp [pagL]
theorem pagL_at (t : List UInt8) {n i : Nat} (h : i < n) : (pagL t n)[i]? = some (getN ((t.drop (2 + 2 * i)).take 2) : Int) := by
  unfold pagL
  rw [List.getElem?_map, List.getElem?_range h]
  rfl
theorem pagL_drop (t : List UInt8) {n i : Nat} (h : i < n) : (pagL t n).drop i = (getN ((t.drop (2 + 2 * i)).take 2) : Int) :: (pagL t n).drop (i + 1) := by
  have h2 := pagL_at t h
  obtain ⟨hl, e⟩ := List.getElem?_eq_some_iff.1 h2
  rw [List.drop_eq_getElem_cons hl, e]
theorem flat2_length (l : List Chg) : ((l.map fun c => putL c.1.toNat 2).flatten).length = 2 * l.length := by
  induction l with
  | nil => rfl
  | cons c l ih => rw [List.map_cons, List.flatten_cons, List.length_append, ih, putL_length, List.length_cons]; omega
theorem hedL_length (l : List Chg) : (hedL l).length = 2 + 2 * l.length := by
  unfold hedL
  rw [List.length_append, putL_length, flat2_length]
theorem hedL_snoc (l : List Chg) (n : Nat) (c : Chg) : putL n 2 ++ ((l ++ [c]).map fun c => putL c.1.toNat 2).flatten = (putL n 2 ++ (l.map fun c => putL c.1.toNat 2).flatten) ++ putL c.1.toNat 2 := by simp
theorem besR_length (e : Nat) : (besR e).length = 19 := by
  unfold besR
  rw [packL_length]
  simp [tot, putL_length]
theorem nonR_length (e : Nat) : (nonR e).length = 12 := nonL_length _ _
theorem nonR_inj {e f : Nat} (he : e < 18446744073709551616) (hf : f < 18446744073709551616) (h : nonR e = nonR f) : e = f := by
  have : putL e 8 = putL f 8 := by
    have h2 := congrArg (List.take 8) h
    simpa [nonR, nonL, putL_length] using h2
  rw [← getN_put8 e he, ← getN_put8 f hf, this]
theorem flat2_at (l : List Chg) {i : Nat} {c : Chg} (h : l[i]? = some c) : (((l.map fun c => putL c.1.toNat 2).flatten).drop (2 * i)).take 2 = putL c.1.toNat 2 := by
  induction l generalizing i with
  | nil => simp at h
  | cons d l ih =>
    rw [List.map_cons, List.flatten_cons]
    cases i with
    | zero =>
      simp at h
      subst h
      rw [Nat.mul_zero, List.drop_zero, List.take_append_of_le_length (by rw [putL_length]; exact Nat.le_refl _), List.take_of_length_le (by rw [putL_length]; exact Nat.le_refl _)]
    | succ i =>
      rw [show 2 * (i + 1) = (putL d.1.toNat 2).length + 2 * i from by rw [putL_length]; omega, ← List.drop_drop, List.drop_left]
      exact ih (by simpa using h)
theorem hedL_num (l : List Chg) (h : l.length ≤ 23) : getN ((hedL l).take 2) = l.length := by
  unfold hedL
  rw [List.take_append_of_le_length (by rw [putL_length]; exact Nat.le_refl _), List.take_of_length_le (by rw [putL_length]; exact Nat.le_refl _), getN_putL]
  omega
theorem hedL_pages (l : List Chg) (h : ∀ c ∈ l, okI c) : pagL (hedL l) l.length = l.map (·.1) := by
  apply List.ext_getElem?
  intro i
  by_cases hi : i < l.length
  · rw [pagL_at _ hi, List.getElem?_map, List.getElem?_eq_getElem hi]
    unfold hedL
    have e := flat2_at l (List.getElem?_eq_getElem hi)
    have ho := h l[i] (List.getElem_mem hi)
    rw [show 2 + 2 * i = (putL l.length 2).length + 2 * i from by rw [putL_length], ← List.drop_drop, List.drop_left, e, getN_putL]
    simp only [Option.map_some, Option.some.injEq]
    obtain ⟨h1, h2, _⟩ := ho
    omega
  · rw [List.getElem?_eq_none (by rw [pagL_length]; omega), List.getElem?_eq_none (by rw [List.length_map]; omega)]
/-- What opens is sixteen bytes shorter. -/
theorem SeaS.Ok.opens_length {S : SeaS} (h : S.Ok) {k n b s t : List UInt8} (hk : k.length = 32) (hn : n.length = 12) (ho : S.opens k n b s = some t) : t.length + 16 = s.length := by
  unfold SeaS.opens at ho
  by_cases hi : S.ideal = true
  · rw [if_pos hi] at ho
    unfold SeaS.known at ho
    obtain ⟨e, he, rfl⟩ := Option.map_eq_some_iff.1 ho
    obtain ⟨_, _, _, hs⟩ := Ent.is_iff.1 (List.find?_some (p := fun e : Ent => e.is k n b s) he)
    obtain ⟨q, _, hz⟩ := h.nums hi e (List.mem_of_find?_eq_some he)
    rw [← hs, hz, noiseL_length]
  · rw [if_neg hi] at ho
    unfold opensL at ho
    split at ho
    · split at ho
      · rw [Option.some.injEq] at ho
        rw [← ho, strL_length (keyF_length hk) hn, List.length_take]
        omega
      · cases ho
    · cases ho
theorem SeaS.made_length {S : SeaS} {k n b t : List UInt8} (hk : k.length = 32) (hn : n.length = 12) : (S.made k n b t).length = t.length + 16 := by
  unfold SeaS.made
  split
  · exact noiseL_length _ _
  · exact sealL_length (keyF_length hk) hn b t

/-- Nobody else does anything, and the power stays. -/
structure DskS.calm (D : DskS) : Prop where
  plot : D.plot = []
  down : D.p.down = false
  fuse : D.p.fuse = -1
  len : ∀ c ∈ D.loose, c.2.length = 512
theorem DskS.calm.ok {D : DskS} (h : D.calm) : D.p.ok = true := by
  unfold PowS.ok
  rw [h.down, h.fuse]
  rfl
theorem DskS.calm.does {D : DskS} (h : D.calm) : D.p.does = true := ok_does h.ok
theorem DskS.calm.next {D : DskS} (h : D.calm) : D.p.next.down = false ∧ D.p.next.fuse = -1 := by
  unfold PowS.next
  rw [h.down, h.fuse]
  exact ⟨rfl, rfl⟩
theorem DskS.calm.new (n : Int) : (DskS.new PowS.new n).calm := ⟨rfl, rfl, rfl, fun c hc => by cases hc⟩
theorem look_of {D E : DskS} (h1 : E.loose = D.loose) (h2 : E.safe = D.safe) (j : Int) : E.look j = D.look j := by
  unfold DskS.look DskS.ago
  rw [h1, h2]
/-- A read of a calm disk. -/
theorem DskS.calm.read {D : DskS} (h : D.calm) {k : Int} (hk : 0 ≤ k ∧ k < D.n) : (D.read k).2.2 = 0 ∧ (D.read k).2.1 = D.look k ∧ (D.read k).1.calm ∧ (D.read k).1.n = D.n ∧ (D.read k).1.loose = D.loose ∧ ∀ j, (D.read k).1.look j = D.look j := by
  obtain ⟨a1, a2, a3, a4⟩ := tick_same h.plot
  have e : D.read k = (D.tick.see (0, k, []), (D.tick.see (0, k, [])).look k, 0) := by
    unfold DskS.read DskS.done
    rw [if_neg (by omega), if_pos h.ok, if_pos h.does]
  have hl : ∀ j, (D.tick.see (0, k, [])).look j = D.look j := look_of a2 a1
  rw [e]
  refine ⟨rfl, hl k, ⟨a3, h.next.1, h.next.2, fun c hc => h.len c ?_⟩, a4, a2, hl⟩
  have : c ∈ D.tick.loose := hc
  rwa [a2] at this
/-- A write on one. -/
theorem DskS.calm.write {D : DskS} (h : D.calm) {k : Int} (hk : 0 ≤ k ∧ k < D.n) {b : List UInt8} (hb : b.length = 512) : (D.write k b).2 = 0 ∧ (D.write k b).1.calm ∧ (D.write k b).1.n = D.n ∧ ∀ j, (D.write k b).1.look j = if k = j then b else D.look j := by
  obtain ⟨a1, a2, a3, a4, a5⟩ := wrote_at h.plot h.does k b
  rw [write_code hk hb, if_pos h.ok]
  refine ⟨rfl, ⟨a3, by rw [a5]; exact h.next.1, by rw [a5]; exact h.next.2, fun c hc => ?_⟩, a4, fun j => ?_⟩
  · have : c ∈ (D.wrote k b).loose := hc
    rw [a1] at this
    rcases List.mem_append.1 this with h1 | h1
    · exact h.len c h1
    · rw [List.mem_singleton.1 h1]
      exact hb
  · unfold DskS.look DskS.ago
    rw [a1, a2, List.reverse_append, List.reverse_singleton, List.singleton_append]
    by_cases e : k = j
    · rw [if_pos e, lookR_hit e]
      rfl
    · rw [if_neg e, lookR_miss e]
theorem ago_append (a b : List Chg) (j : Int) : agoR (a ++ b) j 0 = (lookR a j).getD (agoR b j 0) := by
  induction a with
  | nil => rfl
  | cons c a ih =>
    rw [List.cons_append]
    by_cases e : c.1 = j
    · rw [agoR_zero e, lookR_hit e]
      rfl
    · rw [agoR_miss e, lookR_miss e, ih]
/-- A flush of one. -/
theorem DskS.calm.flush {D : DskS} (h : D.calm) : D.flushed.calm ∧ D.flushed.n = D.n ∧ D.flushed.loose = [] ∧ ∀ j, D.flushed.look j = D.look j := by
  obtain ⟨a1, a2, a3, a4⟩ := tick_same h.plot
  have e : D.flushed = ({ D.tick.plus D.tick.loose with loose := [] } : DskS).see (2, -1, []) := by
    unfold DskS.flushed
    rw [if_pos h.does, settles_plus D.tick.loose D.tick fun c hc => h.len c (by rwa [a2] at hc)]
  rw [e]
  refine ⟨⟨a3, h.next.1, h.next.2, fun c hc => (by cases hc)⟩, a4, rfl, fun j => ?_⟩
  show agoR (D.tick.safe ++ D.tick.loose).reverse j 0 = _
  rw [a1, a2, List.reverse_append, ago_append]
  rfl
/-- A crash of one that has nothing that waits. -/
theorem DskS.calm.crash {D : DskS} (h : D.calm) (hl : D.loose = []) (b : List Bool) : (D.crash b).calm ∧ (D.crash b).n = D.n ∧ (D.crash b).loose = [] ∧ ∀ j, (D.crash b).look j = D.look j := by
  have e : D.crash b = { D with loose := [] } := by
    have : kept [] b = [] := by cases b <;> rfl
    unfold DskS.crash
    rw [hl, this]
    rfl
  rw [e]
  exact ⟨⟨h.plot, h.down, h.fuse, fun c hc => (by cases hc)⟩, rfl, rfl, look_of hl.symm rfl⟩
/-- Blocks, with others written over them. -/
def ovr (f : Int → List UInt8) : List Chg → Int → List UInt8
  | [], j => f j
  | c :: l, j => ovr (fun j => if c.1 = j then c.2 else f j) l j
theorem ovr_none {l : List Chg} {f : Int → List UInt8} {j : Int} (h : ∀ c ∈ l, ¬ c.1 = j) : ovr f l j = f j := by
  induction l generalizing f with
  | nil => rfl
  | cons c l ih =>
    rw [ovr, ih fun x hx => h x (by simp [hx]), if_neg (h c (by simp))]
theorem ovr_last {l m : List Chg} {f : Int → List UInt8} {c : Chg} (h : ∀ x ∈ m, ¬ x.1 = c.1) : ovr f (l ++ c :: m) c.1 = c.2 := by
  induction l generalizing f with
  | nil => rw [List.nil_append, ovr, ovr_none h, if_pos rfl]
  | cons d l ih => rw [List.cons_append, ovr, ih]
theorem ovr_congr {l : List Chg} {f g : Int → List UInt8} (h : ∀ j, f j = g j) (j : Int) : ovr f l j = ovr g l j := by rw [funext h]
/-- Pages that may be, written to a calm disk. -/
theorem applyD_calm {l : List Chg} : ∀ {D : DskS}, D.calm → (∀ c ∈ l, 0 ≤ c.1 ∧ c.1 < D.n ∧ c.2.length = 512) → (applyD D l).2 = 0 ∧ (applyD D l).1.calm ∧ (applyD D l).1.n = D.n ∧ (applyD D l).1.loose = [] ∧ ∀ j, (applyD D l).1.look j = ovr D.look l j := by
  induction l with
  | nil =>
    intro D h _
    obtain ⟨a1, a2, a3, a4⟩ := h.flush
    rw [applyD_nil]
    exact ⟨by rw [if_pos h.ok], a1, a2, a3, a4⟩
  | cons c l ih =>
    intro D h hl
    obtain ⟨h1, h2, h3⟩ := hl c (by simp)
    obtain ⟨a1, a2, a3, a4⟩ := h.write ⟨h1, h2⟩ h3
    rw [applyD_ok a1]
    obtain ⟨b1, b2, b3, b4, b5⟩ := ih a2 fun x hx => by rw [a3]; exact hl x (by simp [hx])
    refine ⟨b1, b2, b3.trans a3, b4, fun j => ?_⟩
    rw [b5, ovr]
    exact ovr_congr a4 j
/-- Blocks of a calm disk, read. -/
theorem readD_calm {ps : List Int} : ∀ {D : DskS} {k : Nat} {acc : List Chg}, D.calm → (k : Int) + ps.length ≤ D.n → (readD D k acc ps).2.2 = 0 ∧ (readD D k acc ps).1.calm ∧ (readD D k acc ps).1.n = D.n ∧ (readD D k acc ps).1.loose = D.loose ∧ (∀ j, (readD D k acc ps).1.look j = D.look j) ∧ (readD D k acc ps).2.1 = acc ++ ps.mapIdx fun i p => (p, D.look ((k : Int) + i)) := by
  induction ps with
  | nil => intro D k acc h _; rw [readD_nil]; exact ⟨rfl, h, rfl, rfl, fun _ => rfl, by simp⟩
  | cons p ps ih =>
    intro D k acc h hn
    rw [List.length_cons] at hn
    obtain ⟨a1, a2, a3, a4, a5, a6⟩ := h.read (k := (k : Int)) ⟨by omega, by omega⟩
    rw [readD_ok a1]
    obtain ⟨b1, b2, b3, b4, b5, b6⟩ := ih (k := k + 1) (acc := acc ++ [(p, (D.read (k : Int)).2.1)]) a3 (by rw [a4]; omega)
    refine ⟨b1, b2, b3.trans a4, b4.trans a5, fun j => (b5 j).trans (a6 j), ?_⟩
    rw [b6, a2, List.append_assoc, List.mapIdx_cons, List.singleton_append, show (k : Int) + ((0 : Nat) : Int) = k from by omega]
    refine congrArg (acc ++ ·) (congrArg ((p, D.look k) :: ·) ?_)
    apply List.ext_getElem?
    intro i
    rw [List.getElem?_mapIdx, List.getElem?_mapIdx]
    cases ps[i]? with
    | none => rfl
    | some x =>
      simp only [Option.map_some]
      rw [a6, show ((k + 1 : Nat) : Int) + (i : Int) = (k : Int) + ((i + 1 : Nat) : Int) from by omega]
theorem logL_length (s : List UInt8) (l : List Chg) : (logL s l).length = l.length + 1 := by simp [logL]
theorem logL_ok {s : List UInt8} (hs : s.length ≤ 512) {l : List Chg} (h : ∀ c ∈ l, okI c) {n : Int} (hn : (l.length : Int) < n) : ∀ c ∈ logL s l, 0 ≤ c.1 ∧ c.1 < n ∧ c.2.length = 512 := by
  intro c hc
  unfold logL at hc
  rcases List.mem_append.1 hc with hc | hc
  · obtain ⟨i, hi, rfl⟩ := List.mem_iff_getElem.1 hc
    rw [List.length_mapIdx] at hi
    rw [List.getElem_mapIdx]
    have := (h l[i] (List.getElem_mem hi)).2.2
    exact ⟨by show 0 ≤ (i : Int) + 1; omega, by show (i : Int) + 1 < n; omega, this⟩
  · rw [List.mem_singleton.1 hc]
    exact ⟨by show (0 : Int) ≤ 0; omega, by show (0 : Int) < n; omega, pad_length hs⟩
theorem ovr_log0 (f : Int → List UInt8) (s : List UInt8) (l : List Chg) : ovr f (logL s l) 0 = pad s := by
  unfold logL
  exact ovr_last (c := (0, pad s)) (m := []) fun x hx => by cases hx
theorem ovr_logi (f : Int → List UInt8) (s : List UInt8) {l : List Chg} {i : Nat} {c : Chg} (h : l[i]? = some c) : ovr f (logL s l) ((i : Int) + 1) = c.2 := by
  obtain ⟨hi, e⟩ := List.getElem?_eq_some_iff.1 h
  have e0 : l = l.take i ++ c :: l.drop (i + 1) := by rw [← e, ← List.drop_eq_getElem_cons hi, List.take_append_drop]
  obtain ⟨a, ha⟩ : ∃ a, a = l.take i := ⟨_, rfl⟩
  obtain ⟨b, hb⟩ : ∃ b, b = l.drop (i + 1) := ⟨_, rfl⟩
  have hal : a.length = i := by rw [ha, List.length_take]; omega
  rw [← ha, ← hb] at e0
  have e1 : logL s l = a.mapIdx (fun i c => ((i : Int) + 1, c.2)) ++ ((i : Int) + 1, c.2) :: (b.mapIdx (fun j x => (((j + 1 + i : Nat) : Int) + 1, x.2)) ++ [(0, pad s)]) := by
    unfold logL
    rw [e0, List.mapIdx_append, List.mapIdx_cons, hal, List.append_assoc, List.cons_append, Nat.zero_add]
  rw [e1]
  refine ovr_last (c := ((i : Int) + 1, c.2)) fun x hx => ?_
  rcases List.mem_append.1 hx with hx | hx
  · obtain ⟨j, hj, rfl⟩ := List.mem_mapIdx.1 hx
    show ¬ ((j + 1 + i : Nat) : Int) + 1 = (i : Int) + 1
    omega
  · rw [List.mem_singleton.1 hx]
    show ¬ (0 : Int) = (i : Int) + 1
    omega
theorem chkL_ok {l : List Chg} (h1 : l.length ≤ 23) (h2 : ∀ c ∈ l, okI c) : chkL l = 0 := by
  unfold chkL
  rw [if_neg (by omega), if_pos h2]
/-- What Write leaves on a calm disk. -/
theorem wrt_calm {D : DskS} (h : D.calm) {S : SeaS} {k : List UInt8} (hk : k.length = 32) {e : Int} (he : 0 ≤ e) {l : List Chg} (h1 : l.length ≤ 23) (h2 : ∀ c ∈ l, okI c) (hn : 24 ≤ D.n) :
    (wrtD D S k e l).2 = 0 ∧ (wrtD D S k e l).1.calm ∧ (wrtD D S k e l).1.n = D.n ∧ (wrtD D S k e l).1.loose = [] ∧ (wrtD D S k e l).1.look 0 = pad (S.made k (nonR e.toNat) (besR e.toNat) (hedL l)) ∧ ∀ (i : Nat) (c : Chg), l[i]? = some c → (wrtD D S k e l).1.look ((i : Int) + 1) = c.2 := by
  have hl := SeaS.made_length (S := S) (b := besR e.toNat) (t := hedL l) hk (nonR_length e.toNat)
  rw [hedL_length] at hl
  unfold wrtD
  rw [if_neg (by omega), if_pos (chkL_ok h1 h2)]
  obtain ⟨a1, a2, a3, a4, a5⟩ := applyD_calm h (logL_ok (s := S.made k (nonR e.toNat) (besR e.toNat) (hedL l)) (by omega) h2 (n := D.n) (by omega))
  exact ⟨a1, a2, a3, a4, by rw [a5, ovr_log0], fun i c hc => by rw [a5, ovr_logi _ _ hc]⟩
theorem wrtS_eq {S : SeaS} {k : List UInt8} {e : Int} (he : 0 ≤ e) {l : List Chg} (h1 : l.length ≤ 23) (h2 : ∀ c ∈ l, okI c) : wrtS S k e l = S.seal k (nonR e.toNat) (besR e.toNat) (hedL l) := by
  unfold wrtS
  rw [if_neg (by omega), if_pos (chkL_ok h1 h2)]
/-- What was noted is read as it was. -/
theorem red_back {D : DskS} (h : D.calm) {S T : SeaS} (hok : T.Ok) {k : List UInt8} (hk : k.length = 32) {e : Int} (he : 0 ≤ e) {l : List Chg} (h1 : l.length ≤ 23) (h2 : ∀ c ∈ l, okI c) (hn : 24 ≤ D.n) (hS : S = T.seal k (nonR e.toNat) (besR e.toNat) (hedL l)) (h0 : D.look 0 = pad (T.made k (nonR e.toNat) (besR e.toNat) (hedL l))) (hi : ∀ (i : Nat) (c : Chg), l[i]? = some c → D.look ((i : Int) + 1) = c.2) :
    (redD D S k e l.length).2 = (l, 0) ∧ (redD D S k e l.length).1.calm ∧ (redD D S k e l.length).1.n = D.n ∧ (redD D S k e l.length).1.loose = D.loose ∧ ∀ j, (redD D S k e l.length).1.look j = D.look j := by
  obtain ⟨a1, a2, a3, a4, a5, a6⟩ := h.read (k := 0) ⟨by omega, by omega⟩
  have hl := SeaS.made_length (S := T) (b := besR e.toNat) (t := hedL l) hk (nonR_length e.toNat)
  rw [hedL_length] at hl
  have ho : opnR D S k e l.length = some (hedL l) := by
    unfold opnR
    rw [a2, h0, Int.toNat_natCast, show 18 + 2 * l.length = (T.made k (nonR e.toNat) (besR e.toNat) (hedL l)).length from by omega, pad_take, hS]
    exact SeaS.opens_own hok hk (nonR_length e.toNat) _ _
  have e1 : redD D S k e l.length = readD (D.read 0).1 1 [] (l.map (·.1)) := by
    unfold redD
    rw [if_neg (by unfold badR; omega), if_pos a1, ho]
    dsimp only
    rw [Int.toNat_natCast, if_pos (hedL_num l h1), hedL_pages l h2]
  rw [e1]
  obtain ⟨b1, b2, b3, b4, b5, b6⟩ := readD_calm (ps := l.map (·.1)) (k := 1) (acc := []) a3 (by rw [a4, List.length_map]; omega)
  refine ⟨Prod.ext ?_ b1, b2, b3.trans a4, b4.trans a5, fun j => (b5 j).trans (a6 j)⟩
  show (readD (D.read 0).1 1 [] (l.map (·.1))).2.1 = l
  rw [b6, List.nil_append]
  apply List.ext_getElem?
  intro i
  rw [List.getElem?_mapIdx, List.getElem?_map]
  cases hx : l[i]? with
  | none => rfl
  | some c =>
    simp only [Option.map_some, Option.some.injEq]
    rw [a6, show ((1 : Nat) : Int) + (i : Int) = (i : Int) + 1 from by omega, hi i c hx]
/-- Of another epoch, under another key, or of another number nothing is read, ideally. -/
theorem red_tells {D : DskS} (h : D.calm) {S : SeaS} {k k' : List UInt8} {e e' n : Int} (he : 0 ≤ e) (he' : 0 ≤ e') (hz : e < 18446744073709551616) (hz' : e' < 18446744073709551616) {l : List Chg} (h1 : l.length ≤ 23) (hn : 24 ≤ D.n) (hnn : 0 ≤ n ∧ n ≤ 23) (hS : S = (SeaS.new true).seal k (nonR e.toNat) (besR e.toNat) (hedL l)) (h0 : D.look 0 = pad ((SeaS.new true).made k (nonR e.toNat) (besR e.toNat) (hedL l))) (hne : ¬ (e = e' ∧ n = l.length ∧ k = k')) :
    (redD D S k' e' n).2 = ([], 6) ∧ (redD D S k' e' n).1.calm ∧ (redD D S k' e' n).1.n = D.n ∧ (redD D S k' e' n).1.loose = D.loose ∧ ∀ j, (redD D S k' e' n).1.look j = D.look j := by
  obtain ⟨a1, a2, a3, a4, a5, a6⟩ := h.read (k := 0) ⟨by omega, by omega⟩
  have hl : ((SeaS.new true).made k (nonR e.toNat) (besR e.toNat) (hedL l)).length = 18 + 2 * l.length := by
    show (noiseL _ _).length = _
    rw [noiseL_length, hedL_length]
    omega
  have ho : opnR D S k' e' n = none := by
    unfold opnR SeaS.opens
    rw [if_pos (by rw [hS]; rfl), hS, SeaS.known_seal]
    show (if _ then _ else _) = _
    rw [if_neg]
    rintro ⟨q1, q2, _, q4⟩
    refine hne ⟨?_, ?_, q1⟩
    · have := nonR_inj (by omega) (by omega) q2
      omega
    · have := congrArg List.length q4
      rw [hl, List.length_take, a2, h0, pad_length (by omega)] at this
      omega
  have e1 : redD D S k' e' n = ((D.read 0).1, [], 6) := by
    unfold redD
    rw [if_neg (by unfold badR; omega), if_pos a1, ho]
  rw [e1]
  exact ⟨rfl, a3, a4, a5, a6⟩

end Go.Proofs.YtlenmkhmkommcaaGreat

/-
  Contracts of what layer 9's program deletes out of what waits by: the closure of Poke, Go's IndexFunc and DeleteFunc over touches. Condition: lists of at most a million.
-/
namespace Go.Proofs.YtlenmkhmkommcaaGreat
open Go.RowKit
set_option linter.unusedVariables false

/-- A touch of another block. -/
def keepT (at_ : Int) (t : Tch) : Bool := decide (t.2.1 ≠ at_)
set_option maxRecDepth 100000 in
theorem oSameAt (w : World) {xb : Nat} {on at_ kind num : Int} {xp : Option Addr} {xm xq : Nat} (hx : Blk w xb [.int .i64 on, .int .i64 at_, .int .i64 kind, .slice xp xm xq, .int .i64 num] 28) (k a : Int) (p : Option Addr) (m q : Nat) :
    Calls Tryz.prog 54 #[.agg #[.int .i64 k, .int .i64 a, .slice p m q], .pointer (some ⟨xb, 0, none⟩)] w fun e w' => e = .returned (.bool (decide (a = at_))) ∧ Below w.heap.size w w' := by
  have hl := hx.lt
  have c1 : w.cell? ⟨xb, 1, none⟩ = some (.int .i64 at_) := hx.cell 1
  have hx' := hx.old (.cells #[.int .i64 k, .int .i64 a, .slice p m q] 114)
  have c1' : (w.alloc (.cells #[.int .i64 k, .int .i64 a, .slice p m q] 114)).cell? ⟨xb, 1, none⟩ = some (.int .i64 at_) := hx'.cell 1
  have k7 : Below w.heap.size w (w.alloc (.cells #[.int .i64 k, .int .i64 a, .slice p m q] 114)) := below_alloc _ _
  clear hx hx'
  by_cases h : a = at_
  · subst h
    go_enter Tryz.func54, Tryz.ntmps54
    go_wp2_with fail
    go_ret
    exact ⟨by simp, k7⟩
  · go_enter Tryz.func54, Tryz.ntmps54
    go_wp2_with fail
    go_ret
    exact ⟨by simp [h], k7⟩
/-- Where the first touch of that block is. -/
def Found (at_ : Int) (l : List Tch) (z : Int) : Prop := (z = -1 ∧ l.filter (keepT at_) = l) ∨ ∃ i : Nat, z = (i : Int) ∧ i < l.length ∧ (l.take (i + 1)).filter (keepT at_) = l.take i
theorem take_keep {at_ : Int} {l : List Tch} {k : Nat} {t : Tch} (hx : l[k]? = some t) : (l.take (k + 1)).filter (keepT at_) = (l.take k).filter (keepT at_) ++ (if keepT at_ t then [t] else []) := by
  rw [List.take_add_one, hx, List.filter_append]
  congr 1
  cases h : keepT at_ t <;> simp [h]
theorem OwS.touchAt {A : Nat → Prop} {w : World} {base : Nat} {a : Option Addr} {n c : Nat} {l : List Tch} (h : OwS (elT A) 3 114 w base (.slice a n c) l) {i : Nat} {t : Tch} (hx : l[i]? = some t) : ∃ b o p m q, a = some ⟨b, o, none⟩ ∧ b < w.heap.size ∧ w.rangeAt b (o + i * 3) [.int .i64 t.1, .int .i64 t.2.1, .slice p m q] ∧ B5 A w p m q t.2.2 ∧ i64 t.1 ∧ i64 t.2.1 := by
  obtain ⟨b, o, vs, ha, hlt, hr, hl, p, m, q, rfl, hb, h1, h2⟩ := (h.sl3 (A := fun _ => True) (fun _ _ _ => trivial)).at hx
  exact ⟨b, o, p, m, q, ha, hlt, hr, hb, h1, h2⟩
theorem rangeAt_below {w w' : World} {b o : Nat} {vs : List Value} (h : w.rangeAt b o vs) (hb : Below w.heap.size w w') (hlt : b < w.heap.size) : w'.rangeAt b o vs := fun j v hj => (hb.cell (p := ⟨b, o + j, none⟩) hlt).trans (h j v hj)
set_option maxRecDepth 100000 in
set_option maxHeartbeats 4000000 in
theorem oIndex (w : World) {A : Nat → Prop} {a : Option Addr} {n c : Nat} {l : List Tch} (h : OwS (elT A) 3 114 w 0 (.slice a n c) l) (hn : n ≤ 1000000) {xb : Nat} {on at_ kind num : Int} {xp : Option Addr} {xm xq : Nat} (hx : Blk w xb [.int .i64 on, .int .i64 at_, .int .i64 kind, .slice xp xm xq, .int .i64 num] 28) :
    Calls Tryz.prog 90 #[.slice a n c, .func (.func 54) #[] #[.pointer (some ⟨xb, 0, none⟩)]] w fun e w' => ∃ z, e = .returned (.int .i64 z) ∧ Found at_ l z ∧ Below w.heap.size w w' := by
  obtain ⟨a', n', c', hv, hln⟩ := h.shape
  simp only [Value.slice.injEq] at hv
  rw [← hv.2.1] at hln
  clear hv
  have HS : Hid (OwS (elT A) 3 114 w 0 (.slice a n c) l) := h
  have HX : Hid (Blk w xb [.int .i64 on, .int .i64 at_, .int .i64 kind, .slice xp xm xq, .int .i64 num] 28) := hx
  have HL : Hid (l.length = n) := hln
  clear h hx hln
  go_enter Tryz.func90, Tryz.ntmps90
  go_wp2_with fail
  go_loopw [8] (fun i wr => ∃ k : Nat, k ≤ n ∧ i = .int .i64 (k : Int) ∧ Hid ((l.take k).filter (keepT at_) = l.take k) ∧ Below w.heap.size w wr) (fun i _ => n - (intOf i).toNat)
  case atStart => exact ⟨0, Nat.zero_le _, rfl, by show _ = _; simp, Below.refl _ _⟩
  case round =>
    obtain ⟨k, hk, rfl, HI, kw⟩ := hrel
    by_cases hlt : k < n
    · have i0 : (k : Int) < (n : Int) := by omega
      obtain ⟨t, hx⟩ : ∃ t, l[k]? = some t := ⟨_, List.getElem?_eq_getElem (by rw [HL.out]; exact hlt)⟩
      obtain ⟨eb, eo, p, m, q, ha, hlb, hrg, h5, j1, j2⟩ := HS.out.touchAt hx
      have hrg' := rangeAt_below hrg kw hlb
      have TK := take_keep (at_ := at_) hx
      obtain ⟨t1, t2, tb⟩ := t
      dsimp only at hrg' j1 j2
      subst ha
      have CS := oSameAt wr (HX.out.below kw HX.out.lt) t1 t2 p m q
      have hlw : eb < wr.heap.size := Nat.lt_of_lt_of_le hlb kw.size
      by_cases hq : t2 = at_
      · rw [decide_eq_true hq] at CS
        have HF : Hid (Found at_ l (k : Int)) := Or.inr ⟨k, rfl, by rw [HL.out]; exact hlt, by rw [TK, HI.out, show keepT at_ (t1, t2, tb) = false from decide_eq_false (fun hne => hne hq)]; simp⟩
        clear hrg h5 hx TK HI hq
        go_wp2_with ((with_reducible refine at_ld 114 ?_); (refine ld 114 (.tmp 14) 3 size88 _ Tryz.underlying114 rfl eb (eo + k * 3) [.int .i64 t1, .int .i64 t2, .slice p m q] rfl hrg' rfl ?_))
        refine CS.mono ?_
        rintro e w4 ⟨rfl, kw4⟩
        go_wp2_with fail
        go_ret
        exact ⟨(k : Int), rfl, HF.out, kw.trans (kw4.mono kw.size)⟩
      · rw [decide_eq_false hq] at CS
        have HI2 : Hid ((l.take (k + 1)).filter (keepT at_) = l.take (k + 1)) := by
          show _ = _
          rw [TK, HI.out, show keepT at_ (t1, t2, tb) = true from decide_eq_true hq, List.take_add_one, hx]
          rfl
        clear hrg h5 hx TK HI hq
        go_wp2_with ((with_reducible refine at_ld 114 ?_); (refine ld 114 (.tmp 14) 3 size88 _ Tryz.underlying114 rfl eb (eo + k * 3) [.int .i64 t1, .int .i64 t2, .slice p m q] rfl hrg' rfl ?_))
        refine CS.mono ?_
        rintro e w4 ⟨rfl, kw4⟩
        go_wp2_with fail
        go_roundw
        case rel => exact ⟨k + 1, by omega, by go_num, HI2, kw.trans (kw4.mono kw.size)⟩
        case measure => simp [intOf]; omega
    · have i0 : ¬ (k : Int) < (n : Int) := by omega
      have HF : Hid (Found at_ l (-1)) := Or.inl ⟨rfl, by have := HI.out; rwa [List.take_of_length_le (by rw [HL.out]; omega)] at this⟩
      clear HI
      go_wp2_with fail
      go_ret
      exact ⟨-1, rfl, HF.out, kw⟩
/-- A row of rows, one of them replaced. -/
theorem flat_set {sz : Nat} : ∀ {rows : List (List Value)}, (∀ vs ∈ rows, vs.length = sz) → ∀ {i : Nat} (vs : List Value), i < rows.length → (rows.set i vs).flatten = rows.flatten.take (i * sz) ++ vs ++ rows.flatten.drop (i * sz + sz)
  | [], _, i, vs, h => by simp at h
  | r :: rows, hl, 0, vs, _ => by
    have h0 := hl r (by simp)
    rw [List.set_cons_zero, List.flatten_cons, List.flatten_cons, Nat.zero_mul, List.take_zero, List.nil_append, Nat.zero_add, List.drop_append_of_le_length (by omega), List.drop_of_length_le (by omega), List.nil_append]
  | r :: rows, hl, i + 1, vs, h => by
    have h0 := hl r (by simp)
    rw [List.set_cons_succ, List.flatten_cons, List.flatten_cons, flat_set (fun v hv => hl v (by simp [hv])) vs (by simpa using h), Nat.succ_mul, List.take_append, List.take_of_length_le (l := r) (by omega), show i * sz + sz - r.length = i * sz from by omega, List.drop_append, List.drop_of_length_le (l := r) (by omega), List.nil_append, show i * sz + sz + sz - r.length = i * sz + sz from by omega]
    simp [List.append_assoc]
theorem take_mid {α : Type} (A vs : List α) {p s N : Nat} (hs : vs.length = s) (h1 : p + s ≤ N) (h2 : N ≤ A.length) : (A.take p ++ vs ++ A.drop (p + s)).take N = (A.take N).take p ++ vs ++ (A.take N).drop (p + s) := by
  rw [List.take_append, List.take_of_length_le (l := A.take p ++ vs) (by rw [List.length_append, List.length_take]; omega), List.length_append, List.length_take, hs, show min p A.length + s = p + s from by omega, List.take_take, show min p N = p from by omega, List.drop_take]
theorem Rel2.put {α β : Type} {R : α → β → Prop} : ∀ {l : List α} {m : List β}, Rel2 R l m → ∀ (k : Nat) {x : α} {y : β}, R x y → Rel2 R (l.set k x) (m.set k y)
  | [], [], _, k, x, y, _ => by simp [Rel2]
  | _ :: _, _ :: _, h, 0, x, y, hr => ⟨hr, h.2⟩
  | _ :: _, _ :: _, h, k + 1, x, y, hr => ⟨h.1, Rel2.put h.2 k hr⟩
  | [], _ :: _, h, _, _, _, _ => h.elim
  | _ :: _, [], h, _, _, _, _ => h.elim
theorem Rel2.take {α β : Type} {R : α → β → Prop} : ∀ {l : List α} {m : List β}, Rel2 R l m → ∀ (k : Nat), Rel2 R (l.take k) (m.take k)
  | [], [], _, k => by simp [Rel2]
  | _ :: _, _ :: _, h, 0 => trivial
  | _ :: _, _ :: _, h, k + 1 => ⟨h.1, Rel2.take h.2 k⟩
  | [], _ :: _, h, _ => h.elim
  | _ :: _, [], h, _ => h.elim
/-- The block that a slice of structs of the call's own lies in. -/
theorem OwS.blk {α : Type} {el : World → α → List Value → Prop} {sz : Nat} {e : TypeId} {w : World} {base : Nat} {g n c : Nat} {l : List α} (h : OwS el sz e w base (.slice (some ⟨g, 0, none⟩) n c) l) : ∃ vs, Blk w g vs e ∧ vs.length = c * sz ∧ n ≤ c ∧ c ≤ maxLen ∧ l.length = n ∧ base ≤ g ∧ ∃ rows, Rel2 (Row el sz w) l rows ∧ vs.take (n * sz) = rows.flatten := by
  obtain ⟨rows, hr, h1, h2⟩ := h
  rcases h2 with ⟨hv, h0⟩ | ⟨g', cap, cur, hv, hg, hh, hn, hm, hc, ht⟩
  · simp at hv
  · simp only [Value.slice.injEq, Option.some.injEq, Addr.mk.injEq] at hv
    obtain ⟨⟨rfl, _⟩, rfl, rfl⟩ := hv
    exact ⟨cur.toList, by unfold Blk; simpa using hh, by simpa using hc, hn, hm, rfl, hg, rows, hr, ht⟩
theorem OwS.of_blk {α : Type} {el : World → α → List Value → Prop} {sz : Nat} {e : TypeId} {w : World} {base : Nat} {g n c : Nat} {l : List α} {vs : List Value} {rows : List (List Value)} (hb : Blk w g vs e) (hl : vs.length = c * sz) (hn : n ≤ c) (hm : c ≤ maxLen) (h1 : l.length = n) (hg : base ≤ g) (hr : Rel2 (Row el sz w) l rows) (ht : vs.take (n * sz) = rows.flatten) : OwS el sz e w base (.slice (some ⟨g, 0, none⟩) n c) l := by
  subst h1
  refine ⟨rows, hr, ?_, Or.inr ⟨g, c, vs.toArray, rfl, hg, hb, hn, hm, by simpa using hl, by simpa using ht⟩⟩
  rw [← ht, List.length_take, hl, Nat.min_eq_left (Nat.mul_le_mul_right _ hn)]
/-- s[i] = v. -/
theorem OwS.setAt {α : Type} {el : World → α → List Value → Prop} {sz : Nat} {e : TypeId} {w : World} {base : Nat} {g n c : Nat} {l : List α} (h : OwS el sz e w base (.slice (some ⟨g, 0, none⟩) n c) l) {i : Nat} (hi : i < n) (y : α) (vs : List Value) (hvs : vs.length = sz) (hv1 : ∀ u ∈ vs, u.oneCell' = true) (hy : el w y vs) (he : ∀ x vs', el w x vs' → el (w.setCells g (i * sz) vs) x vs') : OwS el sz e (w.setCells g (i * sz) vs) base (.slice (some ⟨g, 0, none⟩) n c) (l.set i y) := by
  obtain ⟨us, hb, h1, h2, h3, h4, h5, rows, hr, ht⟩ := h.blk
  have hin : i * sz + sz ≤ n * sz := by rw [← Nat.succ_mul]; exact Nat.mul_le_mul_right _ hi
  have hnc : n * sz ≤ c * sz := Nat.mul_le_mul_right _ h2
  refine OwS.of_blk (hb.sets vs (i * sz) (by rw [hvs, h1]; omega)) ?_ h2 h3 (by rw [List.length_set]; exact h4) h5 ((hr.mono fun x vs' ⟨a1, a2, a3⟩ => ⟨a1, a2, he x vs' a3⟩).put i ⟨hvs, hv1, he y vs hy⟩) ?_
  · rw [List.length_append, List.length_append, List.length_take, List.length_drop, hvs, h1]
    omega
  · rw [hvs, take_mid us vs hvs hin (by omega), ht, flat_set (rel_lens hr) vs (by rw [← hr.len, h4]; exact hi)]
/-- s[:i], whatever lies behind. -/
theorem OwS.cutTo {α : Type} {el : World → α → List Value → Prop} {sz : Nat} {e : TypeId} {w w' : World} {base : Nat} {g n c : Nat} {l : List α} (h : OwS el sz e w base (.slice (some ⟨g, 0, none⟩) n c) l) {i : Nat} (hi : i ≤ n) {us vs : List Value} (hw : Blk w g vs e) (hus : us.length = (n - i) * sz) (hb : Blk w' g (vs.take (i * sz) ++ us ++ vs.drop (i * sz + (n - i) * sz)) e) (he : ∀ x vs', el w x vs' → el w' x vs') : OwS el sz e w' base (.slice (some ⟨g, 0, none⟩) i c) (l.take i) := by
  obtain ⟨us', hb', h1, h2, h3, h4, h5, rows, hr, ht⟩ := h.blk
  have e1 : vs = us' := by
    have : some (Obj.cells vs.toArray e) = some (Obj.cells us'.toArray e) := hw.symm.trans hb'
    simp only [Option.some.injEq, Obj.cells.injEq] at this
    simpa using this.1
  subst e1
  have hin : i * sz + (n - i) * sz = n * sz := by rw [← Nat.add_mul]; congr 1; omega
  have hnc : n * sz ≤ c * sz := Nat.mul_le_mul_right _ h2
  have hfl := flatC_len (rel_lens hr)
  have hrl := hr.len
  refine OwS.of_blk hb ?_ (by omega) h3 (by rw [List.length_take]; omega) h5 ((hr.mono fun x vs' ⟨a1, a2, a3⟩ => ⟨a1, a2, he x vs' a3⟩).take i) ?_
  · rw [List.length_append, List.length_append, List.length_take, List.length_drop, hus, h1]
    omega
  · rw [List.append_assoc, List.take_append, List.take_take, Nat.min_self, List.length_take, h1, show i * sz - min (i * sz) (c * sz) = 0 from by omega, List.take_zero, List.append_nil]
    have : vs.take (i * sz) = (vs.take (n * sz)).take (i * sz) := by rw [List.take_take]; congr 1; omega
    rw [this, ht]
    clear this ht hw hb hb' hfl hus hin hnc h4
    have hlen := rel_lens hr
    clear hr hrl
    induction rows generalizing i with
    | nil => simp
    | cons r rows ih =>
      cases i with
      | zero => simp
      | succ i =>
        have h0 := hlen r (by simp)
        rw [List.take_succ_cons, List.flatten_cons, List.flatten_cons, Nat.succ_mul, List.take_append, List.take_of_length_le (by omega), show i * sz + sz - r.length = i * sz from by omega]
        congr 1
        exact ih (i := i) (by omega) (fun v hv => hlen v (by simp [hv]))
/-- clear. -/
theorem at_clr {x : Operand} {t : TypeId} {ops : Array Oper} {rest : List Oper} {a : Act} {w : World} {Q : Exit → Act → World → Prop} {dst : Option Tmp} {tp : TypeId} {pos : String} {aft : Array Edge}
    (h : wpList Tryz.prog ops Q ({ dst := dst, op := .call { callee := .builtin .clear, args := #[x], argTypes := #[t] }, type := tp, pos := pos, after := aft, guard := none } :: rest) a w) : wpList Tryz.prog ops Q ({ dst := dst, op := .call { callee := .builtin .clear, args := #[x], argTypes := #[t] }, type := tp, pos := pos, after := aft, guard := none } :: rest) a w := h
theorem kp_cells (g : Nat) : ∀ (us : List Value) (w : World) (o : Nat), Kp (fun j => j = g) w (w.setCells g o us) := fun us w o => Kp.of_grown (but_cells g us w o)
theorem zeroT_one (n : Nat) : ∀ v ∈ (Builtin.zeroCells #[.int .i64 0, .int .i64 0, .slice none 0 0] n).toList, v.oneCell' = true := by
  intro v hv
  unfold Builtin.zeroCells at hv
  simp only [Array.toList_map, List.mem_map, Array.toList_range] at hv
  obtain ⟨i, hi, rfl⟩ := hv
  have hm : i % 3 < 3 := Nat.mod_lt _ (by omega)
  show Value.oneCell' ((#[Value.int .i64 0, .int .i64 0, .slice none 0 0] : Array Value)[i % 3]!) = true
  rcases (show i % 3 = 0 ∨ i % 3 = 1 ∨ i % 3 = 2 by omega) with h | h | h <;> rw [h] <;> rfl
theorem wpList_clr {x : Operand} {ops : Array Oper} {rest : List Oper} {a : Act} {w : World} {Q : Exit → Act → World → Prop} {dst : Option Tmp} {tp : TypeId} {pos : String} {aft : Array Edge} (g o n c : Nat) (hx : a.eval x = .slice (some ⟨g, o, none⟩) n c) (hn : 0 < n) {vs : List Value} (hb : Blk w g vs 114) (hr : o + n * 3 ≤ vs.length)
    (h : ∀ w' us, us.length = n * 3 → Blk w' g (vs.take o ++ us ++ vs.drop (o + n * 3)) 114 → Kp (fun j => j = g) w w' → wpList Tryz.prog ops Q rest (a.put dst (.tuple #[])) w') : wpList Tryz.prog ops Q ({ dst := dst, op := .call { callee := .builtin .clear, args := #[x], argTypes := #[40] }, type := tp, pos := pos, after := aft, guard := none } :: rest) a w := by
  have hz : (Builtin.zeroCells #[.int .i64 0, .int .i64 0, .slice none 0 0] n).toList.length = n * 3 := by
    rw [Array.length_toList, size_zeroCells]
    rfl
  have hst := run_storeCells_cells (P := Tryz.prog) g o (Builtin.zeroCells #[.int .i64 0, .int .i64 0, .slice none 0 0] n).toList 0 w (fun j hj => by rw [hb.cell, Nat.add_zero, List.getElem?_eq_getElem (by omega)]; rfl) (fun j hj => hb.free _) (zeroT_one n)
  rw [Nat.add_zero] at hst
  have hrun : (Builtin.clear_ #[40] tp #[.slice (some ⟨g, o, none⟩) n c]).run Tryz.prog w = .ok (.tuple #[]) (w.setCells g o (Builtin.zeroCells #[.int .i64 0, .int .i64 0, .slice none 0 0] n).toList) := by
    obtain ⟨m, rfl⟩ : ∃ m, n = m + 1 := ⟨n - 1, by omega⟩
    simp [Builtin.clear_, run_underlying Tryz.underlying40, Value.cells, hst]
  have hK := h _ _ hz (by rw [← hz]; exact hb.sets _ o (by rw [hz]; exact hr)) (kp_cells g _ w o)
  refine wpList_plain rfl fun K hK' => ?_
  unfold Oper.wp execOp
  simp only [resolve, invoke, builtin, Sem.run_bind, Sem.run_pure, Result.andThen_ok, List.map_toArray, List.map_cons, List.map_nil, hx, hrun]
  exact hK' _ _ hK

end Go.Proofs.YtlenmkhmkommcaaGreat

/-
  The contract of Go's DeleteFunc over touches, as layer 9's program calls it. Condition: lists of at most a million.
-/
namespace Go.Proofs.YtlenmkhmkommcaaGreat
open Go.RowKit
set_option linter.unusedVariables false

/-- In the middle of DeleteFunc: i touches are kept of the first j. -/
def Dl (A : Nat → Prop) (w : World) (g n c : Nat) (at_ : Int) (l : List Tch) (i j : Nat) (wr : World) : Prop :=
  ∃ C, OwS (elT A) 3 114 wr 0 (.slice (some ⟨g, 0, none⟩) n c) C ∧ C.take i = (l.take j).filter (keepT at_) ∧ C.drop j = l.drop j ∧ C.length = n ∧ Kp (fun k => k = g) w wr
theorem sp_g {A : Nat → Prop} {w w' : World} {g : Nat} (ht : Ty w g 114) (k : Kp (fun j => j = g) w w') : Sp A A (fun j => j = g) w w' := ⟨k, fun j e _ h5 => by subst e; exact absurd (h5.one ht) (by decide), fun _ h => h⟩
theorem Dl.grow {A : Nat → Prop} {w wr w' : World} {g n c : Nat} {at_ : Int} {l : List Tch} {i j : Nat} (h : Dl A w g n c at_ l i j wr) (k : Below wr.heap.size wr w') : Dl A w g n c at_ l i j w' := by
  obtain ⟨C, ho, h1, h2, h3, hk⟩ := h
  exact ⟨C, ho.turn (Sp.elT (T := fun _ => False) ⟨Kp.of_below k, fun _ hf => hf.elim, fun _ hu => hu⟩) fun x hx => k.block x (ho.lt x hx).2, h1, h2, h3, hk.trans (Kp.of_below k)⟩
theorem Dl.elem {A : Nat → Prop} {w wr : World} {g n c : Nat} {at_ : Int} {l : List Tch} {i j : Nat} (h : Dl A w g n c at_ l i j wr) (hij : i < j) (hj : j < n) : ∃ t p m q, l[j]? = some t ∧ wr.rangeAt g (j * 3) [.int .i64 t.1, .int .i64 t.2.1, .slice p m q] ∧ g < wr.heap.size ∧
    (keepT at_ t = false → Dl A w g n c at_ l i (j + 1) wr) ∧ (keepT at_ t = true → ∀ v, Below wr.heap.size wr v → v.there g (i * 3) 3 ∧ Dl A w g n c at_ l (i + 1) (j + 1) (v.setCells g (i * 3) [.int .i64 t.1, .int .i64 t.2.1, .slice p m q])) := by
  have h0 := h
  obtain ⟨C, ho, h1, h2, h3, hk⟩ := h
  obtain ⟨t, ht⟩ : ∃ t, C[j]? = some t := ⟨_, List.getElem?_eq_getElem (by omega)⟩
  have hlt : l[j]? = some t := by
    have e1 : (C.drop j)[0]? = some t := by rw [List.getElem?_drop]; exact ht
    rw [h2, List.getElem?_drop] at e1
    exact e1
  obtain ⟨b, o, p, m, q, ha, hlb, hrg, h5, i1, i2⟩ := ho.touchAt ht
  simp only [Option.some.injEq, Addr.mk.injEq] at ha
  obtain ⟨rfl, rfl, _⟩ := ha
  rw [Nat.zero_add] at hrg
  have hdr : C.drop (j + 1) = l.drop (j + 1) := by
    have := congrArg (List.drop 1) h2
    rwa [List.drop_drop, List.drop_drop] at this
  refine ⟨t, p, m, q, hlt, hrg, hlb, fun hf => ⟨C, ho, ?_, hdr, h3, hk⟩, fun hf v kb => ?_⟩
  · rw [take_keep hlt, h1, hf]
    simp
  · have ov : OwS (elT A) 3 114 v 0 (.slice (some ⟨g, 0, none⟩) n c) C := ho.turn (Sp.elT (T := fun _ => False) ⟨Kp.of_below kb, fun _ hf => hf.elim, fun _ hu => hu⟩) fun x hx => kb.block x (ho.lt x hx).2
    obtain ⟨us, hb, g1, g2, g3, g4, _⟩ := ov.blk
    have hty : Ty v g 114 := hb.ty
    have kc := kp_cells g [.int .i64 t.1, .int .i64 t.2.1, .slice p m q] v (i * 3)
    refine ⟨hb.there (i * 3) 3 (by rw [g1]; omega), C.set i t, ov.setAt (by omega) t _ rfl (one88 _ _ _ _ _) ⟨p, m, q, rfl, h5.below kb, i1, i2⟩ (sp_g hty kc).elT, ?_, ?_, by rw [List.length_set]; exact h3, (hk.trans (Kp.of_below kb)).trans kc⟩
    · rw [take_keep hlt, hf, ← h1, List.take_add_one, List.getElem?_set_self (by omega), List.take_set_of_le (Nat.le_refl _)]
      rfl
    · rw [List.drop_set_of_lt (by omega), hdr]
theorem Dl.last {A : Nat → Prop} {w wr : World} {g n c : Nat} {at_ : Int} {l : List Tch} {i : Nat} (h : Dl A w g n c at_ l i n wr) (hi : i < n) (hl : l.length = n) : ∃ vs, Blk wr g vs 114 ∧ i * 3 + (n - i) * 3 ≤ vs.length ∧
    ∀ w' us, us.length = (n - i) * 3 → Blk w' g (vs.take (i * 3) ++ us ++ vs.drop (i * 3 + (n - i) * 3)) 114 → Kp (fun j => j = g) wr w' → OwS (elT A) 3 114 w' 0 (.slice (some ⟨g, 0, none⟩) i c) (l.filter (keepT at_)) ∧ Kp (fun k => k = g) w w' := by
  obtain ⟨C, ho, h1, h2, h3, hk⟩ := h
  obtain ⟨us, hb, g1, g2, g3, g4, _⟩ := ho.blk
  refine ⟨us, hb, by rw [g1]; omega, fun w' us' hu hb' k' => ⟨?_, hk.trans k'⟩⟩
  have := ho.cutTo (w' := w') (i := i) (by omega) hb hu hb' (sp_g hb.ty k').elT
  rwa [h1, List.take_of_length_le (by omega)] at this
theorem sizeOf88 (w : World) : Sem.run Tryz.prog (sizeOf (Tryz.prog.elem 40)) w = .ok 3 w := by kernel_rfl
theorem under38 : Tryz.prog.underlying 40 = some (.slice (Tryz.prog.elem 40)) := by kernel_rfl
theorem cutLow88 {g n c i : Nat} (hi : i < n) (hc : n ≤ c) (w : World) : Sem.run Tryz.prog (Instr.slice 40 (.slice (some ⟨g, 0, none⟩) n c) (some (.int .i64 (i : Int))) none none) w = .ok (.slice (some ⟨g, i * 3, none⟩) (n - i) (c - i)) w := by
  rw [run_slice_l w 40 _ n c under38 .i64 (i : Int) (by omega) (by omega), sizeOf88]
  simp only [Result.andThen, sliced, Int.toNat_natCast]
  rw [if_neg (by omega)]
  simp [Addr.add]
  omega
theorem cutHigh88 {g n c i : Nat} (hi : i < n) (hc : n ≤ c) (w : World) : Sem.run Tryz.prog (Instr.slice 40 (.slice (some ⟨g, 0, none⟩) n c) none (some (.int .i64 (i : Int))) none) w = .ok (.slice (some ⟨g, 0, none⟩) i c) w := by
  rw [run_slice_h w 40 _ n c under38 .i64 (i : Int) (by omega) (by omega), sizeOf88]
  simp only [Result.andThen, sliced, Int.toNat_natCast, Nat.sub_zero]
  rw [if_neg (by omega)]
  simp [Addr.add]
set_option maxRecDepth 100000 in
set_option maxHeartbeats 8000000 in
theorem oDelete (w : World) {A : Nat → Prop} {a : Option Addr} {n c : Nat} {l : List Tch} (h : OwS (elT A) 3 114 w 0 (.slice a n c) l) (hn : n ≤ 1000000) {xb : Nat} {on at_ kind num : Int} {xp : Option Addr} {xm xq : Nat} (hx : Blk w xb [.int .i64 on, .int .i64 at_, .int .i64 kind, .slice xp xm xq, .int .i64 num] 28) :
    Calls Tryz.prog 53 #[.slice a n c, .func (.func 54) #[] #[.pointer (some ⟨xb, 0, none⟩)]] w fun e w' => ∃ a' n' c', e = .returned (.slice a' n' c') ∧ OwS (elT A) 3 114 w' 0 (.slice a' n' c') (l.filter (keepT at_)) ∧ (Value.slice a' n' c').ownBlock = (Value.slice a n c).ownBlock ∧ Kp (fun j => (Value.slice a n c).ownBlock = some j) w w' := by
  have CI := oIndex w h hn hx
  obtain ⟨a', n', c', hv, hln⟩ := h.shape
  simp only [Value.slice.injEq] at hv
  rw [← hv.2.1] at hln
  clear hv
  have HS : Hid (OwS (elT A) 3 114 w 0 (.slice a n c) l) := h
  have HX : Hid (Blk w xb [.int .i64 on, .int .i64 at_, .int .i64 kind, .slice xp xm xq, .int .i64 num] 28) := hx
  have HL : Hid (l.length = n) := hln
  clear h hx hln
  go_enter Tryz.func53, Tryz.ntmps53
  go_wp2_with fail
  refine CI.mono ?_
  rintro e w1 ⟨z, rfl, hf, k1⟩
  rcases hf with ⟨rfl, hf⟩ | ⟨iz, rfl, hi, hf⟩
  · have HF : Hid (l.filter (keepT at_) = l) := hf
    clear CI hf
    go_wp2_with fail
    go_ret
    refine ⟨a, n, c, rfl, ?_, rfl, Kp.of_below k1⟩
    rw [HF.out]
    exact HS.out.turn (Sp.elT (T := fun _ => False) ⟨Kp.of_below k1, fun _ hf => hf.elim, fun _ hu => hu⟩) fun x hx => k1.block x (HS.out.lt x hx).2
  · rw [HL.out] at hi
    obtain ⟨g, rfl⟩ : ∃ g, a = some ⟨g, 0, none⟩ := by
      obtain ⟨rows, _, _, ho⟩ := HS.out
      rcases ho with ⟨e, _⟩ | ⟨g, cap, cur, e, _⟩
      · simp only [Value.slice.injEq] at e; omega
      · simp only [Value.slice.injEq] at e; exact ⟨g, e.1⟩
    have o1 : OwS (elT A) 3 114 w1 0 (.slice (some ⟨g, 0, none⟩) n c) l := HS.out.turn (Sp.elT (T := fun _ => False) ⟨Kp.of_below k1, fun _ hf => hf.elim, fun _ hu => hu⟩) fun x hx => k1.block x (HS.out.lt x hx).2
    have hnc : n ≤ c := by obtain ⟨_, _, _, h2, _⟩ := HS.out.blk; exact h2
    have hgx : ¬ xb = g := fun e => by subst e; exact absurd ((HS.out.ty _ rfl).one HX.out.ty) (by decide)
    have D0 : Dl A w g n c at_ l iz (iz + 1) w1 := ⟨l, o1, hf.symm, rfl, HL.out, Kp.of_below k1⟩
    have jz : ((iz : Int) == -1) = false := by simp
    clear CI hf o1 k1
    go_wp2_with fail
    go_loopw [5, 6] (fun iv jv wr => ∃ i j : Nat, i < j ∧ j ≤ n ∧ iv = .int .i64 (i : Int) ∧ jv = .int .i64 (j : Int) ∧ Dl A w g n c at_ l i j wr) (fun _ jv _ => n - (intOf jv).toNat)
    case atStart => exact ⟨iz, iz + 1, by omega, by omega, rfl, by go_num, D0⟩
    case round =>
      clear D0 jz hi
      obtain ⟨i, j, hij, hjn, rfl, rfl, DL⟩ := hrel
      by_cases hlt : j < n
      · have i0 : (j : Int) < (n : Int) := by omega
        obtain ⟨t, p, m, q, hx, hrg, hlg, DF, DT⟩ := DL.elem hij hlt
        have hkw : Kp (fun k => k = g) w wr := by obtain ⟨_, _, _, _, _, hk⟩ := DL; exact hk
        have HXW : Hid (Blk wr xb [.int .i64 on, .int .i64 at_, .int .i64 kind, .slice xp xm xq, .int .i64 num] 28) := hkw.blk HX.out hgx
        have HDF : Hid (keepT at_ t = false → Dl A w g n c at_ l i (j + 1) wr) := DF
        have HDT : Hid _ := DT
        obtain ⟨t1, t2, tb⟩ := t
        dsimp only at hrg HDT
        have z7 : Blk (wr.alloc (.cells #[.int .i64 0, .int .i64 0, .slice none 0 0] 114)) wr.heap.size [.int .i64 0, .int .i64 0, .slice none 0 0] 114 := Blk.newAt wr _ _ wr.heap.size rfl _ rfl
        have k7 : Below wr.heap.size wr (wr.alloc (.cells #[.int .i64 0, .int .i64 0, .slice none 0 0] 114)) := below_alloc _ _
        clear DF DT DL hkw hx
        go_wp2_with (first
          | ((with_reducible refine at_ld 114 ?_); (refine ld 114 (.tmp 24) 3 size88 _ Tryz.underlying114 rfl g (j * 3) [.int .i64 t1, .int .i64 t2, .slice p m q] rfl hrg rfl ?_))
          | ((with_reducible refine at_st 114 ?_); (refine st' 114 (.tmp 7) (.tmp 25) 3 size88 wr.heap.size 0 [.int .i64 t1, .int .i64 t2, .slice p m q] rfl (one88 _ _ _ _ _) (z7.there 0 3 (by simp)) rfl rfl ?_); intro v3 hv3; have b3 : Blk v3 wr.heap.size [.int .i64 t1, .int .i64 t2, .slice p m q] 114 := (by rw [hv3]; exact z7.setsW _ rfl); have k3 : Below wr.heap.size wr v3 := (by rw [hv3]; exact below_sets (Nat.le_refl _) _ k7 0); have l3 := b3.lt; clear hv3)
          | ((with_reducible refine at_ld 114 ?_); (refine ld 114 (.tmp 7) 3 size88 _ Tryz.underlying114 rfl wr.heap.size 0 [.int .i64 t1, .int .i64 t2, .slice p m q] rfl b3.whole rfl ?_)))
        have CS := oSameAt v3 (HXW.out.below k3 HXW.out.lt) t1 t2 p m q
        by_cases hq : t2 = at_
        · rw [decide_eq_true hq] at CS
          have HD2 : Hid (Dl A w g n c at_ l i (j + 1) wr) := HDF.out (decide_eq_false (fun hne => hne hq))
          clear hq
          refine CS.mono ?_
          rintro e w4 ⟨rfl, kw4⟩
          have DL4 := HD2.out.grow (k3.trans (kw4.mono k3.size))
          clear HD2 HDF HDT HXW CS z7 k7 hrg b3 l3 k3 kw4
          go_wp2_with fail
          go_roundw
          case rel => exact ⟨i, j + 1, by omega, by omega, rfl, by go_num, DL4⟩
          case measure => simp [intOf]; omega
        · rw [decide_eq_false hq] at CS
          have HD2 : Hid _ := HDT.out (decide_eq_true hq)
          clear hq
          refine CS.mono ?_
          rintro e w4 ⟨rfl, kw4⟩
          have hth := (HD2.out w4 (k3.trans (kw4.mono k3.size))).1
          have HD3 : Hid _ := (HD2.out w4 (k3.trans (kw4.mono k3.size))).2
          have b4 := b3.below kw4 b3.lt
          have l4 := b4.lt
          have g4 : g < w4.heap.size := Nat.lt_of_lt_of_le (Nat.lt_of_lt_of_le hlg k3.size) kw4.size
          have i5 : (i : Int) < (n : Int) := by omega
          clear HD2 HDF HDT HXW CS z7 k7 hrg b3 l3 k3 kw4
          go_wp2_with (first
            | ((with_reducible refine at_ld 114 ?_); (refine ld 114 (.tmp 7) 3 size88 _ Tryz.underlying114 rfl wr.heap.size 0 [.int .i64 t1, .int .i64 t2, .slice p m q] rfl b4.whole rfl ?_))
            | ((with_reducible refine at_st 114 ?_); (refine st' 114 (.tmp 33) (.tmp 32) 3 size88 g (i * 3) [.int .i64 t1, .int .i64 t2, .slice p m q] rfl (one88 _ _ _ _ _) hth rfl rfl ?_); intro v5 hv5; have DL5 : Dl A w g n c at_ l (i + 1) (j + 1) v5 := (by rw [hv5]; exact HD3.out); clear hv5))
          go_roundw
          case rel => exact ⟨i + 1, j + 1, by omega, by omega, by go_num, by go_num, DL5⟩
          case measure => simp [intOf]; omega
      · have i0 : ¬ (j : Int) < (n : Int) := by omega
        obtain rfl : j = n := by omega
        obtain ⟨vs, hb, hvl, HE⟩ := DL.last hij HL.out
        have HEH : Hid _ := HE
        have hlo := cutLow88 (g := g) hij hnc
        have hhi := cutHigh88 (g := g) hij hnc
        obtain ⟨ni, hni⟩ : ∃ ni, ni = j - i := ⟨_, rfl⟩
        obtain ⟨ci, hci⟩ : ∃ ci, ci = c - i := ⟨_, rfl⟩
        rw [← hni] at hlo hvl HEH
        rw [← hci] at hlo
        have hni0 : 0 < ni := by omega
        clear HE DL hni hci
        go_wp2_with ((with_reducible refine at_clr ?_); (refine wpList_clr g (i * 3) ni ci rfl hni0 hb hvl ?_); intro w5 us5 hu5 hb5 hk5; have hfin := HEH.out w5 us5 hu5 hb5 hk5; clear hb5 hk5 hu5)
        go_ret
        exact ⟨some ⟨g, 0, none⟩, i, c, rfl, hfin.1, rfl, hfin.2.mono fun j _ e => by rw [e]; rfl⟩

end Go.Proofs.YtlenmkhmkommcaaGreat
