/-
  8 texts in one. No statement of the seat is proved here.
-/
import Derived.Test.YtlenmkhmkommcaaGreatJ10

/-
  Plain mathematics of layer 10: what a cell is, and what each call makes of it; how the reference's cell lies in memory ('RC'). No condition; nothing of the program.
-/
namespace Go.Proofs.YtlenmkhmkommcaaGreat
open Go.RowKit

/-- A cell: the power, its sectors, how many were written. -/
structure CelS where
  p : PowS
  l : List (List UInt8)
  writes : Nat
def z1k : List UInt8 := List.replicate 1024 0
theorem z1k_length : z1k.length = 1024 := List.length_replicate
/-- Bytes as a sector. -/
def fitK (b : List UInt8) : List UInt8 := (b ++ z1k).take 1024
theorem fitK_length (b : List UInt8) : (fitK b).length = 1024 := by
  unfold fitK
  rw [List.length_take, List.length_append, z1k_length]
  omega
def CelS.new (p : PowS) : CelS := ⟨p, [z1k, z1k, z1k, z1k], 0⟩
def CelS.read (C : CelS) (at_ : Int) : List UInt8 × Int := if at_ < 0 ∨ 3 < at_ then ([], 2) else if C.p.down then ([], 5) else (C.l.getD at_.toNat [], 0)
def CelS.wrote (C : CelS) (at_ : Int) (b : List UInt8) : CelS := if C.p.does then ⟨C.p.next, C.l.set at_.toNat (fitK b), C.writes + 1⟩ else { C with p := C.p.next }
def CelS.write (C : CelS) (at_ : Int) (b : List UInt8) : CelS × Int := if at_ < 0 ∨ 3 < at_ then (C, 2) else if 1024 < b.length then (C, 17) else (C.wrote at_ b, if C.p.ok then 0 else 5)
/-- What is too much. -/
structure CelS.fit (C : CelS) (m : Nat) : Prop where
  p : C.p.fit m
  l : C.l.length = 4
  s : ∀ x ∈ C.l, x.length = 1024
  writes : C.writes ≤ m
theorem CelS.fit_new : (CelS.new PowS.new).fit 0 := ⟨PowS.fit_new, rfl, fun x hx => by
  simp only [CelS.new, List.mem_cons, List.not_mem_nil, or_false] at hx
  rcases hx with rfl | rfl | rfl | rfl <;> exact z1k_length, Nat.le_refl _⟩
theorem CelS.fit.mono {C : CelS} {m n : Nat} (h : C.fit m) (hm : m ≤ n) : C.fit n := ⟨PowS.fit_mono h.p hm, h.l, h.s, by have := h.writes; omega⟩
theorem CelS.fit.power {C : CelS} {m : Nat} (h : C.fit m) {P : PowS} (hP : P.fit m) : ({ C with p := P } : CelS).fit m := ⟨hP, h.l, h.s, h.writes⟩
theorem CelS.fit.a_wrote {C : CelS} {m : Nat} (h : C.fit m) (at_ : Int) (b : List UInt8) : (C.wrote at_ b).fit (m + 1) := by
  unfold CelS.wrote
  split
  · refine ⟨PowS.fit_next h.p, by rw [List.length_set]; exact h.l, fun x hx => ?_, by have := h.writes; show C.writes + 1 ≤ _; omega⟩
    rcases List.mem_or_eq_of_mem_set hx with hx | rfl
    · exact h.s x hx
    · exact fitK_length b
  · exact ⟨PowS.fit_next h.p, h.l, h.s, by have := h.writes; show C.writes ≤ _; omega⟩
theorem CelS.fit.a_write {C : CelS} {m : Nat} (h : C.fit m) (at_ : Int) (b : List UInt8) : (C.write at_ b).1.fit (m + 1) := by
  unfold CelS.write
  split
  · exact h.mono (by omega)
  · split
    · exact h.mono (by omega)
    · exact h.a_wrote at_ b
/-- Bytes as an element of a slice. -/
def elB (A : Nat → Prop) (w : World) (b : List UInt8) (vs : List Value) : Prop := ∃ p m q, vs = [.slice p m q] ∧ B5 A w p m q b
theorem elB.keep {A : Nat → Prop} {w w' : World} (hk : ∀ j, j < w.heap.size → A j → w'.heap[j]? = w.heap[j]?) : ∀ c vs, elB A w c vs → elB A w' c vs := by
  rintro c vs ⟨p, m, q, e, hb⟩
  exact ⟨p, m, q, e, hb.keep fun j _ _ ha hh => hk j (Array.getElem?_eq_some_iff.1 hh).1 ha⟩
theorem elB.grown {A : Nat → Prop} {w w' : World} {r : Option Nat} (g : w.grownBy w' r) (hr : ∀ j cur f, r = some j → w.heap[j]? ≠ some (.cells cur 5 f)) : ∀ c vs, elB A w c vs → elB A w' c vs := by
  rintro c vs ⟨p, m, q, e, hb⟩
  exact ⟨p, m, q, e, hb.grown g hr⟩
/-- The reference's slice. -/
structure Tri where
  la : Option Addr
  ln : Nat
  lc : Nat
/-- The reference's cell as cells, as a value. -/
def cc (C : CelS) (q : Tri) : List Value := [.int .i64 (C.p.steps : Int), .int .i64 C.p.fuse, .bool C.p.done, .bool C.p.down, .slice q.la q.ln q.lc, .int .i64 (C.writes : Int)]
def cv (C : CelS) (q : Tri) : Value := .agg (cc C q).toArray
/-- The reference's cell in memory. -/
def RC (A : Nat → Prop) (w : World) (C : CelS) (q : Tri) : Prop := Sl (elB A) 1 A w q.la q.ln q.lc C.l
theorem RC.keep {A : Nat → Prop} {w w' : World} {C : CelS} {q : Tri} (h : RC A w C q) (hs : w.heap.size ≤ w'.heap.size) (hk : ∀ j, j < w.heap.size → A j → w'.heap[j]? = w.heap[j]?) : RC A w' C q := Sl.keep h hs (elB.keep hk) hk
theorem RC.below {A : Nat → Prop} {w w' : World} {C : CelS} {q : Tri} (h : RC A w C q) (hb : Below w.heap.size w w') : RC A w' C q := h.keep hb.size fun j hj _ => hb.block j hj
theorem RC.kp {A F : Nat → Prop} {w w' : World} {C : CelS} {q : Tri} (h : RC A w C q) (k : Kp F w w') (hA : ∀ j, A j → ¬ F j) : RC A w' C q := h.keep k.size fun j hj ha => k.block j hj (hA j ha)
theorem RC.mono {A A' : Nat → Prop} {w : World} {C : CelS} {q : Tri} (h : RC A w C q) (hA : ∀ j, j < w.heap.size → A j → A' j) : RC A' w C q := Sl.mono h (fun _ _ ⟨p, m, q, e, hb⟩ => ⟨p, m, q, e, hb.mono hA⟩) hA
/-- The sector k. -/
theorem Sl.bytes {A : Nat → Prop} {w : World} {a : Option Addr} {n c : Nat} {l : List (List UInt8)} (h : Sl (elB A) 1 A w a n c l) {s : Nat} {x : List UInt8} (hx : l[s]? = some x) : ∃ b o p m q, a = some ⟨b, o, none⟩ ∧ b < w.heap.size ∧ w.cell? ⟨b, o + s, none⟩ = some (.slice p m q) ∧ B5 A w p m q x := by
  obtain ⟨b, o, vs, ha, hlt, hrg, hl, p, m, q, rfl, hb⟩ := h.at hx
  exact ⟨b, o, p, m, q, ha, hlt, by have := hrg 0 _ rfl; rwa [Nat.add_zero, Nat.mul_one] at this, hb⟩
end Go.Proofs.YtlenmkhmkommcaaGreat

/-
  Plain mathematics of layer 11: keys of a tape, bytes of a number. No condition; nothing of the program.
-/
namespace Go.Proofs.YtlenmkhmkommcaaGreat
open Go.RowKit

/-- The next number. -/
def lcg (x : Nat) : Nat := (x * 6364136223846793005 + 1442695040888963407) % 18446744073709551616
/-- The number behind i steps. -/
def lcgI (n : Nat) : Nat → Nat
  | 0 => n
  | i + 1 => lcg (lcgI n i)
def lcgB (n i : Nat) : UInt8 := UInt8.ofNat (lcgI n (i + 1) / 72057594037927936)
/-- So many bytes that come of it. -/
def lcgL (n k : Nat) : List UInt8 := (List.range k).map (lcgB n)
def noiseL (n size : Nat) : List UInt8 := (putL n 8 ++ lcgL n (size - 8)).take size
theorem lcg_lt (x : Nat) : lcg x < 18446744073709551616 := Nat.mod_lt _ (by omega)
theorem lcgI_lt {n : Nat} (h : n < 18446744073709551616) : ∀ i, lcgI n i < 18446744073709551616
  | 0 => h
  | _ + 1 => lcg_lt _
theorem lcgL_length (n k : Nat) : (lcgL n k).length = k := by simp [lcgL]
theorem lcgL_succ (n k : Nat) : lcgL n (k + 1) = lcgL n k ++ [lcgB n k] := by simp [lcgL, List.range_succ]
theorem noiseL_length (n size : Nat) : (noiseL n size).length = size := by
  unfold noiseL
  rw [List.length_take, List.length_append, putL_length, lcgL_length]
  omega
/-- Unlike numbers, unlike bytes. -/
theorem noise_inj {n m k : Nat} (hn : n < 18446744073709551616) (hm : m < 18446744073709551616) (hk : 8 ≤ k) : noiseL n k = noiseL m k ↔ n = m := by
  constructor
  · intro h
    have e : ∀ x, (noiseL x k).take 8 = putL x 8 := fun x => by
      unfold noiseL
      rw [List.take_take, Nat.min_eq_left hk, List.take_append_of_le_length (by rw [putL_length]; exact Nat.le_refl _), List.take_of_length_le (by rw [putL_length]; exact Nat.le_refl _)]
    have h8 : putL n 8 = putL m 8 := by rw [← e n, ← e m, h]
    rw [← getN_put8 n hn, ← getN_put8 m hm, h8]
  · rintro rfl
    rfl
def zk32 : List UInt8 := List.replicate 32 0
/-- A key of any bytes. -/
def key32 (b : List UInt8) : List UInt8 := (b ++ zk32).take 32
/-- A tape: all keys, how many were drawn. -/
structure TapS where
  l : List (List UInt8)
  next : Nat
def TapS.new (l : List (List UInt8)) : TapS := ⟨l.map key32, 0⟩
def TapS.draw (T : TapS) : TapS × List UInt8 × Int := if T.next < T.l.length then ({ T with next := T.next + 1 }, T.l.getD T.next [], 0) else (T, [], 8)
def TapS.apart (T : TapS) : Bool := decide T.l.Nodup

end Go.Proofs.YtlenmkhmkommcaaGreat

/-
  Bytes as numbers: what the model's operations on eight bits are. No condition; nothing of the program.
-/
namespace Go.Proofs.YtlenmkhmkommcaaGreat
open Go.RowKit

theorem Own.bs3 {w : World} {base : Nat} {v : Value} {l : List UInt8} (h : Own w base v l) : ∃ a m c, v = .slice a m c ∧ Bs w a m c l := by
  obtain ⟨a, c, rfl, hb⟩ := h.bs
  exact ⟨a, _, c, rfl, hb⟩
theorem b_lt (x : UInt8) : x.toNat < 256 := UInt8.toNat_lt x
end Go.Proofs.YtlenmkhmkommcaaGreat

/-
  Two rows of bytes, one by one exclusive-ored: plain. No condition; nothing of the program.
-/
namespace Go.Proofs.YtlenmkhmkommcaaGreat
open Go.RowKit

def xorL (l m : List UInt8) : List UInt8 := List.zipWith (· ^^^ ·) l m

end Go.Proofs.YtlenmkhmkommcaaGreat

/-
  The contract of the program's Xor: two rows of bytes, one by one exclusive-ored. Condition: rows of at most 1000000 bytes.
-/
namespace Go.Proofs.YtlenmkhmkommcaaGreat
open Go.RowKit

end Go.Proofs.YtlenmkhmkommcaaGreat

/-
  Plain mathematics of layer 4: bytes that are doubled, multiplied, inverted, the box by the powers of three and by its definition. No condition; nothing of the program.
-/
namespace Go.Proofs.YtlenmkhmkommcaaGreat
open Go.RowKit

/-- A byte times two. -/
def dbl (c : UInt8) : UInt8 := if c >>> 7 = 1 then (c <<< 1) ^^^ 27 else c <<< 1

/-- Two bytes multiplied: what is gathered, and the first one doubled, behind so many bits. -/
def tmsA (a b : UInt8) : Nat → UInt8
  | 0 => 0
  | i + 1 => if (b >>> UInt8.ofNat i) &&& 1 = 1 then tmsA a b i ^^^ (dblN a i) else tmsA a b i
where dblN (a : UInt8) : Nat → UInt8
  | 0 => a
  | i + 1 => dbl (dblN a i)
def tms (a b : UInt8) : UInt8 := tmsA a b 8

/-- The first byte from i on, of so many, that times c is 1; else 0. -/
def srch (c : UInt8) : Nat → Nat → UInt8
  | 0, _ => 0
  | n + 1, i => if tms c (UInt8.ofNat i) = 1 then UInt8.ofNat i else srch c n (i + 1)
def inv (c : UInt8) : UInt8 := srch c 255 1

/-- A bit of the box. -/
def bxbit (x : UInt8) (i : Nat) : UInt8 := x >>> UInt8.ofNat i ^^^ x >>> UInt8.ofNat ((i + 4) % 8) ^^^ x >>> UInt8.ofNat ((i + 5) % 8) ^^^ x >>> UInt8.ofNat ((i + 6) % 8) ^^^ x >>> UInt8.ofNat ((i + 7) % 8) ^^^ 99 >>> UInt8.ofNat i
def bxs (x : UInt8) : Nat → UInt8
  | 0 => 0
  | i + 1 => bxs x i ||| ((bxbit x i &&& 1) <<< UInt8.ofNat i)
/-- The box, by its definition. -/
def box (c : UInt8) : UInt8 := bxs (inv c) 8

/-- The powers of three. -/
def p3 : Nat → UInt8
  | 0 => 1
  | i + 1 => p3 i ^^^ dbl (p3 i)
/-- The inverses, behind so many powers. -/
def p3s : List UInt8 := (List.range 255).map p3
def invS : Nat → List UInt8
  | 0 => List.replicate 256 0
  | i + 1 => (invS i).set (p3s.getD i 0).toNat (p3s.getD ((255 - i) % 255) 0)
def rotl (x : UInt8) (n : Nat) : UInt8 := x <<< UInt8.ofNat n ||| x >>> UInt8.ofNat (8 - n)
def bentS (x : UInt8) : Nat → UInt8
  | 0 => x ^^^ 99
  | i + 1 => bentS x i ^^^ rotl x (i + 1)
def bent (x : UInt8) : UInt8 := bentS x 4

/-- A byte of the tables. -/
def boxT : List UInt8 := (List.range 256).map fun c => box (UInt8.ofNat c)
def twT : List UInt8 := (List.range 256).map fun c => dbl (UInt8.ofNat c)
def tabT : List UInt8 := boxT ++ twT
theorem tabT_length : tabT.length = 512 := by simp [tabT, boxT, twT]

theorem tab_box (x : UInt8) : bt tabT x.toNat = ((box x).toNat : Int) := by
  have h := UInt8.toNat_lt x
  unfold bt tabT boxT
  rw [List.getD_eq_getElem?_getD, List.getElem?_append_left (by simp; omega)]
  simp [h]
end Go.Proofs.YtlenmkhmkommcaaGreat

/-
  Rows of bytes that are filled one by one, as cells. No condition; nothing of the program.
-/
namespace Go.Proofs.YtlenmkhmkommcaaGreat
open Go.RowKit

/-- The first k bytes of L, noughts behind, n in all. -/
def fill (L : List UInt8) (n k : Nat) : List UInt8 := L.take k ++ List.replicate (n - k) 0
end Go.Proofs.YtlenmkhmkommcaaGreat

/-
  Plain mathematics of blocks: rows that are written over one by one; shifted, mixed. No condition; nothing of the program.
-/
namespace Go.Proofs.YtlenmkhmkommcaaGreat
open Go.RowKit

/-- The first k bytes of L, those of a behind. -/
def over (L a : List UInt8) (k : Nat) : List UInt8 := L.take k ++ a.drop k
theorem xorL_length {a b : List UInt8} (h : a.length = b.length) : (xorL a b).length = a.length := by simp [xorL]; omega
theorem map16_length (f : Nat → UInt8) : ((List.range 16).map f).length = 16 := by simp

/-- A block's bytes through the box, each one from as many columns on as it is down its own. -/
def shf (b : List UInt8) : List UInt8 := (List.range 16).map fun i => box (b.getD ((i + i % 4 * 4) % 16) 0)
/-- A byte of a mixed column. -/
def mixAt (b : List UInt8) (i : Nat) : UInt8 :=
  dbl (b.getD (i / 4 * 4 + i % 4) 0 ^^^ b.getD (i / 4 * 4 + (i + 1) % 4) 0) ^^^ b.getD (i / 4 * 4 + (i + 1) % 4) 0 ^^^ b.getD (i / 4 * 4 + (i + 2) % 4) 0 ^^^ b.getD (i / 4 * 4 + (i + 3) % 4) 0
def mixL (b : List UInt8) : List UInt8 := (List.range 16).map (mixAt b)
theorem shf_length (b : List UInt8) : (shf b).length = 16 := map16_length _
theorem mixL_length (b : List UInt8) : (mixL b).length = 16 := map16_length _
end Go.Proofs.YtlenmkhmkommcaaGreat
