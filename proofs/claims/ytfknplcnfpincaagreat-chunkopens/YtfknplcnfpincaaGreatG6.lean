/-
  7 texts in one. No statement of the seat is proved here.
-/
import Derived.Test.YtfknplcnfpincaaGreatG5
import Derived.OrdersHeld
import Derived.Deep.RegionHeld3
/-
  Sealed, and opened: plain. Conditions: a key's 240 bytes, a nonce of 12; nothing of the program.
-/
namespace Go.Proofs.YtfknplcnfpincaaGreat

theorem seal_take {K nonce be t : List UInt8} (hK : K.length = 240) (hn : nonce.length = 12) {n : Nat} (ht : t.length = n) : (sealL K nonce be t).take n = strL K nonce t := by
  have h : (strL K nonce t).length = n := by rw [strL_length hK hn, ht]
  unfold sealL
  rw [List.take_append_of_le_length (by omega), List.take_of_length_le (by omega)]
theorem seal_drop {K nonce be t : List UInt8} (hK : K.length = 240) (hn : nonce.length = 12) {n : Nat} (ht : t.length = n) : (sealL K nonce be t).drop n = tagL K nonce be (strL K nonce t) := by
  have h : (strL K nonce t).length = n := by rw [strL_length hK hn, ht]
  unfold sealL
  rw [← h, List.drop_left]
theorem open_seal {K nonce be t : List UInt8} (hK : K.length = 240) (hn : nonce.length = 12) {n : Nat} (ht : t.length = n) : decide (tagL K nonce be ((sealL K nonce be t).take n) = (sealL K nonce be t).drop n) = true := by
  rw [seal_take hK hn ht, seal_drop hK hn ht]
  exact decide_eq_true rfl
theorem open_text {K nonce be t : List UInt8} (hK : K.length = 240) (hn : nonce.length = 12) {n : Nat} (ht : t.length = n) : strL K nonce ((sealL K nonce be t).take n) = t := by
  rw [seal_take hK hn ht, strL_back hK hn]
theorem seal_open {K nonce be o : List UInt8} (hK : K.length = 240) (hn : nonce.length = 12) {n : Nat} (h : tagL K nonce be (o.take n) = o.drop n) : sealL K nonce be (strL K nonce (o.take n)) = o := by
  unfold sealL
  rw [strL_back hK hn, h, List.take_append_drop]

theorem set_apart {l : List UInt8} {q : Nat} (hq : q < l.length) {z : UInt8} (hz : ¬ z = 0) : ¬ l = l.set q (l.getD q 0 ^^^ z) := by
  intro e
  have h := congrArg (fun m => m.getD q 0) e
  simp only [List.getD_eq_getElem?_getD, List.getElem?_set_self hq, Option.getD_some] at h
  rw [← List.getD_eq_getElem?_getD] at h
  apply hz
  have h2 := congrArg (fun x => l.getD q 0 ^^^ x) h
  simp only [UInt8.xor_self, ← UInt8.xor_assoc, UInt8.zero_xor] at h2
  exact h2.symm
/-- A turned bit of the tag. -/
theorem bit_told {K nonce be t : List UInt8} (hK : K.length = 240) (hn : nonce.length = 12) {n q : Nat} (ht : t.length = n) (hq : q < 16) {z : UInt8} (hz : ¬ z = 0) :
    decide (tagL K nonce be (((sealL K nonce be t).set (n + q) ((sealL K nonce be t).getD (n + q) 0 ^^^ z)).take n) = ((sealL K nonce be t).set (n + q) ((sealL K nonce be t).getD (n + q) 0 ^^^ z)).drop n) = false := by
  apply decide_eq_false
  have hl := tagL_length hK hn be (strL K nonce t)
  rw [List.take_set_of_le (by omega), seal_take hK hn ht, List.drop_set, if_neg (by omega), seal_drop hK hn ht, show n + q - n = q from by omega]
  rw [show (sealL K nonce be t).getD (n + q) 0 = (tagL K nonce be (strL K nonce t)).getD q 0 from by
    rw [← seal_drop hK hn ht, List.getD_eq_getElem?_getD, List.getD_eq_getElem?_getD, List.getElem?_drop]]
  exact set_apart (by omega) hz
theorem one_shl {s : Nat} (h : s < 8) : ¬ (1 <<< UInt8.ofNat s : UInt8) = 0 := by
  have : ∀ i : Fin 8, ¬ (1 <<< UInt8.ofNat i.val : UInt8) = 0 := by decide +kernel
  exact this ⟨s, h⟩

end Go.Proofs.YtfknplcnfpincaaGreat

/-
  Rows of words of 32 bits in memory, as of bytes: what a slice of words holds ('Ws'), rows that a call made itself ('Owd'), append and make over them. No condition; no statement of the seat is proved here.
-/
namespace Go.Proofs.YtfknplcnfpincaaGreat
open Go.RowKit

/-- The i-th byte as a number. -/
def wt (l : List UInt32) (i : Nat) : Int := ((l.getD i 0).toNat : Int)

theorem wt_lo (l : List UInt32) (i : Nat) : 0 ≤ wt l i := by unfold wt; omega
theorem wt_hi (l : List UInt32) (i : Nat) : wt l i ≤ 4294967295 := by
  unfold wt
  have := UInt32.toNat_lt (l.getD i 0)
  omega

/-- The slice (a, n, c) holds the bytes l. -/
def Ws (w : World) (a : Option Addr) (n c : Nat) (l : List UInt32) : Prop :=
  l.length = n ∧ n ≤ c ∧ c ≤ maxLen ∧ (a = none → c = 0) ∧ ∀ i, i < n → ∃ b o, a = some ⟨b, o, none⟩ ∧ w.cell? ⟨b, o + i, none⟩ = some (.int .u32 (wt l i))

theorem Ws.len {w : World} {a : Option Addr} {n c : Nat} {l : List UInt32} (h : Ws w a n c l) : l.length = n := h.1
theorem Ws.cap {w : World} {a : Option Addr} {n c : Nat} {l : List UInt32} (h : Ws w a n c l) : n ≤ c := h.2.1
theorem Ws.max {w : World} {a : Option Addr} {n c : Nat} {l : List UInt32} (h : Ws w a n c l) : n ≤ 9223372036854775807 := by
  have h1 := h.2.1
  have h2 := h.2.2.1
  unfold maxLen at h2
  omega

/-- Not empty: it begins somewhere, and its cells lie there. -/
theorem Ws.at {w : World} {a : Option Addr} {n c : Nat} {l : List UInt32} (h : Ws w a n c l) (hn : 0 < n) :
    ∃ b o, a = some ⟨b, o, none⟩ ∧ b < w.heap.size ∧ ∀ i, i < n → w.cell? ⟨b, o + i, none⟩ = some (.int .u32 (wt l i)) := by
  obtain ⟨b, o, ha, hc⟩ := h.2.2.2.2 0 hn
  refine ⟨b, o, ha, lt_of_cell hc, fun i hi => ?_⟩
  obtain ⟨b', o', ha', hc'⟩ := h.2.2.2.2 i hi
  rw [ha] at ha'
  simp at ha'
  obtain ⟨rfl, rfl⟩ := ha'
  exact hc'

theorem Ws.below {w w' : World} {a : Option Addr} {n c : Nat} {l : List UInt32} (h : Ws w a n c l) {B : Nat} (hb : Below B w w') (hB : w.heap.size ≤ B) : Ws w' a n c l := by
  refine ⟨h.1, h.2.1, h.2.2.1, h.2.2.2.1, fun i hi => ?_⟩
  obtain ⟨b, o, ha, hc⟩ := h.2.2.2.2 i hi
  refine ⟨b, o, ha, ?_⟩
  rw [hb.cell (p := ⟨b, o + i, none⟩) (by have := lt_of_cell hc; simp at this ⊢; omega)]
  exact hc

theorem Ws.nil (w : World) : Ws w none 0 0 [] := ⟨rfl, Nat.le_refl _, Nat.zero_le _, fun _ => rfl, fun i hi => by omega⟩

/-- Bytes as cells. -/
def ws (l : List UInt32) : List Value := l.map fun x => .int .u32 (x.toNat : Int)

/-- The value v is a slice of the bytes l, in memory of the call's own from block 'base' on. -/
def Owd (w : World) (base : Nat) (v : Value) (l : List UInt32) : Prop := w.ownsRow base 68 1 v l.length (ws l)

theorem info38 : (Tryz.prog.info? 68).map (fun i => (i.zero, i.size, i.bytes)) = some (some (.int .u32 0), 1, 4) := by kernel_rfl

theorem ws_length (l : List UInt32) : (ws l).length = l.length := by simp [ws]
theorem ws_append (l m : List UInt32) : ws (l ++ m) = ws l ++ ws m := by simp [ws]
theorem ws_get {l : List UInt32} {i : Nat} (h : i < l.length) : (ws l)[i]? = some (.int .u32 (wt l i)) := by
  simp [ws, wt, h, List.getD_eq_getElem?_getD]
theorem ws_one {l : List UInt32} (u : Value) (h : u ∈ ws l) : u.oneCell' = true := by
  simp only [ws, List.mem_map] at h
  obtain ⟨x, _, rfl⟩ := h
  rfl

theorem Owd.nil (w : World) (base : Nat) : Owd w base (.slice none 0 0) [] := World.ownsRow_nil _ _ _ _

theorem Owd.mono {w : World} {base base' : Nat} {v : Value} {l : List UInt32} (h : Owd w base v l) (hb : base' ≤ base) : Owd w base' v l := by
  obtain ⟨h1, h2⟩ := h
  refine ⟨h1, ?_⟩
  rcases h2 with h2 | ⟨g, cap, cur, hv, hg, r⟩
  · exact Or.inl h2
  · exact Or.inr ⟨g, cap, cur, hv, by omega, r⟩

theorem Owd.below {w w' : World} {base B : Nat} {v : Value} {l : List UInt32} (h : Owd w base v l) (hb : Below B w w') (hB : w.heap.size ≤ B) : Owd w' base v l := by
  obtain ⟨h1, h2⟩ := h
  refine ⟨h1, ?_⟩
  rcases h2 with h2 | ⟨g, cap, cur, hv, hg, hh, r⟩
  · exact Or.inl h2
  · refine Or.inr ⟨g, cap, cur, hv, hg, ?_, r⟩
    have hlt : g < w.heap.size := by
      by_cases e : g < w.heap.size
      · exact e
      · rw [Array.getElem?_eq_none (by omega)] at hh; simp at hh
    rw [hb.block g (by omega)]
    exact hh

theorem Owd.size {w : World} {base : Nat} {v : Value} {l : List UInt32} (h : Owd w base v l) : ∀ k, v.ownBlock = some k → base ≤ k := fun k hk => (World.ownsRow.lt h k hk).1

/-- What is owned is a slice of bytes. -/
theorem Owd.bs {w : World} {base : Nat} {v : Value} {l : List UInt32} (h : Owd w base v l) : ∃ a c, v = .slice a l.length c ∧ Ws w a l.length c l := by
  have h' := h
  obtain ⟨h1, h2⟩ := h
  rcases h2 with ⟨rfl, h0⟩ | ⟨g, cap, cur, rfl, hg, hh, hn, hm, r⟩
  · have e : l = [] := List.length_eq_zero_iff.1 h0
    subst e
    exact ⟨none, 0, rfl, Ws.nil w⟩
  · refine ⟨_, cap, rfl, rfl, hn, hm, by simp, fun i hi => ⟨g, 0, rfl, ?_⟩⟩
    have := World.ownsRow.cellAt h' i (by omega)
    rw [ws_get hi] at this
    simpa using this

theorem Ws.news {w : World} {ad : Addr} {m c : Nat} {l : List UInt32} (h : Ws w (some ad) m c l) (j : Nat) (u : Value) (hj : (ws l)[j]? = some u) : w.cell? (ad.add j) = some u := by
  have hl := h.len
  by_cases hjl : j < l.length
  · rw [ws_get hjl] at hj
    obtain ⟨b, o, ha, hc⟩ := h.2.2.2.2 j (by omega)
    simp at ha
    subst ha
    have e : (Addr.add ⟨b, o, none⟩ j) = ⟨b, o + j, none⟩ := by
      unfold Addr.add
      split
      · subst_vars; rfl
      · rfl
    rw [e, hc]
    exact hj
  · rw [List.getElem?_eq_none (by rw [ws_length]; omega)] at hj
    simp at hj

/-- A store into a row of the call's own. -/
theorem Owd.set {w : World} {base g n c : Nat} {l : List UInt32} (h : Owd w base (.slice (some ⟨g, 0, none⟩) n c) l) (hn : l.length = n) (j : Nat) (x : UInt32) :
    Owd (w.setCell ⟨g, j, none⟩ (.int .u32 (x.toNat : Int))) base (.slice (some ⟨g, 0, none⟩) n c) (l.set j x) := by
  subst hn
  have := (World.ownsRow.stored h j (.int .u32 (x.toNat : Int))).1
  unfold Owd
  rw [List.length_set]
  have e : ws (l.set j x) = (ws l).set j (.int .u32 (x.toNat : Int)) := by simp [ws, List.map_set]
  rw [e]
  exact this

theorem Owd.cell {w : World} {base g n c : Nat} {l : List UInt32} (h : Owd w base (.slice (some ⟨g, 0, none⟩) n c) l) (hn : l.length = n) (j : Nat) (hj : j < n) : ∃ v, w.cell? ⟨g, j, none⟩ = some v := by
  subst hn
  have := World.ownsRow.cellAt h j (by omega)
  rw [ws_get hj] at this
  exact ⟨_, this⟩
theorem Owd.free {w : World} {base g n c : Nat} {l : List UInt32} (h : Owd w base (.slice (some ⟨g, 0, none⟩) n c) l) (hn : l.length = n) (j : Nat) : w.frozen? ⟨g, j, none⟩ = false := by
  subst hn
  exact World.ownsRow.frozenAt h j

/-- A literal of bytes in a new block. -/
theorem Ws.made (w : World) (l : List UInt32) (arr : Array Value) (h : arr.toList = ws l) (hm : l.length ≤ 1000000) : Ws (w.alloc (.cells arr 68)) (some ⟨w.heap.size, 0, none⟩) l.length l.length l := by
  have hz : arr.size = l.length := by rw [← Array.length_toList, h, ws_length]
  have ho : Owd (w.alloc (.cells arr 68)) w.heap.size (.slice (some ⟨w.heap.size, 0, none⟩) l.length l.length) l := by
    unfold Owd
    rw [← h]
    exact World.ownsRow_lit w arr l.length (Nat.le_refl _) (by unfold maxLen; omega) (by omega)
  obtain ⟨a, c, e, hb⟩ := ho.bs
  simp only [Value.slice.injEq] at e
  obtain ⟨rfl, _, rfl⟩ := e
  exact hb

theorem ofNat_toNat_w (z : Int) (h0 : 0 ≤ z) (h1 : z ≤ 4294967295) : ((UInt32.ofNat z.toNat).toNat : Int) = z := by
  rw [UInt32.toNat_ofNat']
  omega

theorem Ws.one (w : World) (z : Int) (h0 : 0 ≤ z) (h1 : z ≤ 4294967295) : Ws (w.alloc (.cells #[.int .u32 z] 68)) (some ⟨w.heap.size, 0, none⟩) 1 1 [UInt32.ofNat z.toNat] :=
  Ws.made w [UInt32.ofNat z.toNat] #[.int .u32 z] (by simp only [ws, List.map, ofNat_toNat_w z h0 h1]) (by simp)

theorem Owd.toBs {w : World} {base : Nat} {a : Option Addr} {m c : Nat} {l : List UInt32} (h : Owd w base (.slice a m c) l) : Ws w a m c l := by
  obtain ⟨a', c', e, hb⟩ := h.bs
  simp only [Value.slice.injEq] at e
  obtain ⟨rfl, rfl, rfl⟩ := e
  exact hb

/-- What a call that hands back bytes in new memory leaves. -/
def GivesW (w : World) (l : List UInt32) (e : Ending) (w' : World) : Prop := ∃ a m c, e = .returned (.slice a m c) ∧ Owd w' w.heap.size (.slice a m c) l ∧ Below w.heap.size w w'

theorem GivesW.mk {w w' : World} {l : List UInt32} {v : Value} (h : Owd w' w.heap.size v l) (hb : Below w.heap.size w w') : GivesW w l (.returned v) w' := by
  obtain ⟨a, c, rfl, _⟩ := h.bs
  exact ⟨a, _, c, rfl, h, hb⟩

theorem Ws.drew {w : World} {a : Option Addr} {n c : Nat} {l : List UInt32} (h : Ws w a n c l) : Ws w.drew a n c l := h

theorem Ws.drewN {w : World} {a : Option Addr} {n c : Nat} {l : List UInt32} (h : Ws w a n c l) (d : Nat) : Ws (w.drewN d) a n c l := h
theorem wbelow_drewN' (w : World) (d : Nat) : Below w.heap.size w (w.drewN d) := ⟨rfl, rfl, rfl, Nat.le_refl _, fun _ _ => rfl⟩


end Go.Proofs.YtfknplcnfpincaaGreat

/-
  Plain mathematics: sums of 256 bits on lists of bytes and words of 32 bits, and the sum of abc. No condition; nothing of the program.
-/
namespace Go.Proofs.YtfknplcnfpincaaGreat
open Go.RowKit

def sKs : List UInt32 := [1116352408, 1899447441, 3049323471, 3921009573, 961987163, 1508970993, 2453635748, 2870763221, 3624381080, 310598401, 607225278, 1426881987, 1925078388, 2162078206, 2614888103, 3248222580, 3835390401, 4022224774, 264347078, 604807628, 770255983, 1249150122, 1555081692, 1996064986, 2554220882, 2821834349, 2952996808, 3210313671, 3336571891, 3584528711, 113926993, 338241895, 666307205, 773529912, 1294757372, 1396182291, 1695183700, 1986661051, 2177026350, 2456956037, 2730485921, 2820302411, 3259730800, 3345764771, 3516065817, 3600352804, 4094571909, 275423344, 430227734, 506948616, 659060556, 883997877, 958139571, 1322822218, 1537002063, 1747873779, 1955562222, 2024104815, 2227730452, 2361852424, 2428436474, 2756734187, 3204031479, 3329325298]
def sHs : List UInt32 := [1779033703, 3144134277, 1013904242, 2773480762, 1359893119, 2600822924, 528734635, 1541459225]

def rot (x n : UInt32) : UInt32 := x >>> n ||| x <<< (32 - n)
def sgA (x : UInt32) : UInt32 := rot x 7 ^^^ rot x 18 ^^^ x >>> 3
def sgB (x : UInt32) : UInt32 := rot x 17 ^^^ rot x 19 ^^^ x >>> 10
def bgA (x : UInt32) : UInt32 := rot x 2 ^^^ rot x 13 ^^^ rot x 22
def bgE (x : UInt32) : UInt32 := rot x 6 ^^^ rot x 11 ^^^ rot x 25
def pck (e f g : UInt32) : UInt32 := (e &&& f) ^^^ ((4294967295 ^^^ e) &&& g)
def mst (a b c : UInt32) : UInt32 := (a &&& b) ^^^ (a &&& c) ^^^ (b &&& c)
def tOne (e f g h k : UInt32) : UInt32 := h + bgE e + pck e f g + k

/-- The eight words behind a round; k is its constant and its word together. -/
def rnd (v : List UInt32) (k : UInt32) : List UInt32 :=
  match v with
  | [a, b, c, d, e, f, g, h] => [tOne e f g h k + (bgA a + mst a b c), a, b, c, d + tOne e f g h k, e, f, g]
  | _ => v

def rnds (h w : List UInt32) : Nat → List UInt32
  | 0 => h
  | n + 1 => rnd (rnds h w n) (sKs.getD n 0 + w.getD n 0)

def wordAt (b : List UInt8) (i : Nat) : UInt32 := UInt32.ofNat (getN ((b.drop (4 * i)).take 4))
def wnext (w : List UInt32) (i : Nat) : UInt32 := w.getD (i - 16) 0 + w.getD (i - 7) 0 + sgA (w.getD (i - 15) 0) + sgB (w.getD (i - 2) 0)

/-- The first words of a block's rounds. -/
def schd (b : List UInt8) : Nat → List UInt32
  | 0 => []
  | n + 1 => if n < 16 then schd b n ++ [wordAt b n] else schd b n ++ [wnext (schd b n) n]

def add8 (h v : List UInt32) : List UInt32 := List.zipWith (· + ·) h v

/-- A sum so far with one more block taken. -/
def tk (h : List UInt32) (b : List UInt8) : List UInt32 := add8 h (rnds h (schd b 64) 64)

def blk (l : List UInt8) (n : Nat) : List UInt8 := (l.drop (64 * n)).take 64
def tks (l : List UInt8) : Nat → List UInt32
  | 0 => sHs
  | n + 1 => tk (tks l n) (blk l n)

def padL (l : List UInt8) : List UInt8 := l ++ [128] ++ List.replicate ((119 - l.length % 64) % 64) 0 ++ putL (8 * l.length) 8
def outL (h : List UInt32) : List UInt8 := h.flatMap fun x => putL x.toNat 4
def sumL (l : List UInt8) : List UInt8 := outL (tks (padL l) ((padL l).length / 64))

set_option maxRecDepth 100000 in
theorem sum_abc : sumL [97, 98, 99] = [186, 120, 22, 191, 143, 1, 207, 234, 65, 65, 64, 222, 93, 174, 34, 35, 176, 3, 97, 163, 150, 23, 122, 156, 180, 16, 255, 97, 242, 0, 21, 173] := by decide +kernel

end Go.Proofs.YtfknplcnfpincaaGreat

/-
  Plain mathematics: sums under a key, and keys from keys, on lists of bytes. No condition; nothing of the program.
-/
namespace Go.Proofs.YtfknplcnfpincaaGreat
open Go.RowKit

def xorB (l : List UInt8) (x : UInt8) : List UInt8 := l.map (· ^^^ x)
theorem xorB_length (l : List UInt8) (x : UInt8) : (xorB l x).length = l.length := by simp [xorB]

/-- A key, or its sum where it is too long. -/
def keyL (key : List UInt8) : List UInt8 := if key.length ≤ 64 then key else sumL key
/-- A key's block. -/
def blkL (key : List UInt8) : List UInt8 := keyL key ++ List.replicate (64 - (keyL key).length) 0
def macL (key text : List UInt8) : List UInt8 := sumL (xorB (blkL key) 92 ++ sumL (xorB (blkL key) 54 ++ text))

/-- The i-th link of a key's chain; none ahead of the first. -/
def chn (key info : List UInt8) : Nat → List UInt8
  | 0 => []
  | i + 1 => macL key (chn key info i ++ info ++ [UInt8.ofNat (i + 1)])
/-- The first links, one behind the other. -/
def outC (key info : List UInt8) : Nat → List UInt8
  | 0 => []
  | i + 1 => outC key info i ++ chn key info (i + 1)
def expL (key info : List UInt8) (n : Nat) : List UInt8 := (outC key info ((n + 31) / 32)).take n

set_option maxRecDepth 100000 in
theorem mac_jefe : macL [74, 101, 102, 101] ([119, 104, 97, 116, 32, 100, 111, 32, 121, 97, 32, 119, 97, 110, 116, 32] ++ [102, 111, 114, 32, 110, 111, 116, 104, 105, 110, 103, 63]) = [91, 220, 193, 70, 191, 96, 117, 78, 106, 4, 36, 38, 8, 149, 117, 199, 90, 0, 63, 8, 157, 39, 57, 131, 157, 236, 88, 185, 100, 236, 56, 67] := by decide +kernel

end Go.Proofs.YtfknplcnfpincaaGreat

/-
  Plain mathematics of layer 12: what a sealer is, and what each call makes of it. No condition; nothing of the program.
-/
namespace Go.Proofs.YtfknplcnfpincaaGreat
open Go.RowKit

/-- One thing in the book. -/
structure Ent where
  key : List UInt8
  nonce : List UInt8
  beside : List UInt8
  text : List UInt8
  sealed : List UInt8
/-- A key that was made of another one: noise of a number. -/
structure Kid where
  up : List UInt8
  what : List UInt8
  num : Nat
/-- A sealer. -/
structure SeaS where
  ideal : Bool
  book : List Ent
  kids : List Kid
  count : Nat
  reused : Bool
  forged : Bool
def SeaS.new (i : Bool) : SeaS := ⟨i, [], [], 0, false, false⟩
/-- What comes of sealing. -/
def SeaS.made (S : SeaS) (k n b t : List UInt8) : List UInt8 := if S.ideal then noiseL (S.count + 1) (t.length + 16) else sealL (keyF k) n b t
def SeaS.next (S : SeaS) : Nat := if S.ideal then S.count + 1 else S.count
def Ent.at_ (e : Ent) (k n : List UInt8) : Bool := decide (e.key = k) && decide (e.nonce = n)
def Ent.un (e : Ent) (k n b t : List UInt8) : Bool := decide (e.key = k) && decide (e.nonce = n) && (!decide (e.beside = b) || !decide (e.text = t))
def Ent.is (e : Ent) (k n b s : List UInt8) : Bool := decide (e.key = k) && decide (e.nonce = n) && decide (e.beside = b) && decide (e.sealed = s)
def SeaS.other (S : SeaS) (k n b t : List UInt8) : Bool := S.book.any fun e => e.un k n b t
def SeaS.seal (S : SeaS) (k n b t : List UInt8) : SeaS := { S with book := S.book ++ [⟨k, n, b, t, S.made k n b t⟩], count := S.next, reused := S.reused || S.other k n b t }
def SeaS.first (S : SeaS) (k n : List UInt8) : Option Ent := S.book.find? fun e => e.at_ k n
def SeaS.known (S : SeaS) (k n b s : List UInt8) : Option (List UInt8) := (S.book.find? fun e => e.is k n b s).map (·.text)
/-- What opens for real. -/
def opensL (k n b s : List UInt8) : Option (List UInt8) := if 16 ≤ s.length then (if tagL (keyF k) n b (s.take (s.length - 16)) = s.drop (s.length - 16) then some (strL (keyF k) n (s.take (s.length - 16))) else none) else none
def SeaS.opens (S : SeaS) (k n b s : List UInt8) : Option (List UInt8) := if S.ideal then S.known k n b s else opensL k n b s
def SeaS.opened (S : SeaS) (k n b s : List UInt8) : SeaS := { S with forged := S.forged || (!S.ideal && (opensL k n b s).isSome && (S.known k n b s).isNone) }
def Kid.is (c : Kid) (u p : List UInt8) : Bool := decide (c.up = u) && decide (c.what = p)
def SeaS.kid (S : SeaS) (u p : List UInt8) : Option Kid := S.kids.find? fun c => c.is u p
/-- The number of a key's noise. -/
def SeaS.num (S : SeaS) (u p : List UInt8) : Nat := match S.kid u p with | some c => c.num | none => S.count + 1
def SeaS.derive (S : SeaS) (u p : List UInt8) : SeaS := match S.kid u p with | some _ => S | none => { S with count := S.count + 1, kids := S.kids ++ [⟨u, p, S.count + 1⟩] }

/-- What holds of every sealer that New made. -/
structure SeaS.Ok (S : SeaS) : Prop where
  nums : S.ideal = true → ∀ e ∈ S.book, ∃ n, n ≤ S.count ∧ e.sealed = noiseL n (e.text.length + 16)
  one : S.reused = false → ∀ e ∈ S.book, ∀ e' ∈ S.book, e.key = e'.key → e.nonce = e'.nonce → e.beside = e'.beside ∧ e.text = e'.text
  kids : ∀ c ∈ S.kids, c.num ≤ S.count
  apart : ∀ c ∈ S.kids, ∀ c' ∈ S.kids, c.num = c'.num → c = c'
  bound : S.count + S.book.length ≤ 1000000
theorem SeaS.Ok.new (i : Bool) : (SeaS.new i).Ok := ⟨fun _ e h => by simp [SeaS.new] at h, fun _ e h => by simp [SeaS.new] at h, fun c h => by simp [SeaS.new] at h, fun c h => by simp [SeaS.new] at h, by simp [SeaS.new]⟩

theorem Ent.at_iff {e : Ent} {k n : List UInt8} : e.at_ k n = true ↔ e.key = k ∧ e.nonce = n := by simp [Ent.at_]
theorem Ent.is_iff {e : Ent} {k n b s : List UInt8} : e.is k n b s = true ↔ e.key = k ∧ e.nonce = n ∧ e.beside = b ∧ e.sealed = s := by simp [Ent.is, and_assoc]
theorem Ent.un_iff {e : Ent} {k n b t : List UInt8} : e.un k n b t = true ↔ e.key = k ∧ e.nonce = n ∧ ¬ (e.beside = b ∧ e.text = t) := by
  simp only [Ent.un, Bool.and_eq_true, Bool.or_eq_true, Bool.not_eq_true', decide_eq_false_iff_not, decide_eq_true_eq, and_assoc]
  constructor
  · rintro ⟨h1, h2, h3⟩
    exact ⟨h1, h2, fun ⟨a, b⟩ => h3.elim (fun h => h a) (fun h => h b)⟩
  · rintro ⟨h1, h2, h3⟩
    refine ⟨h1, h2, ?_⟩
    by_cases hb : e.beside = b
    · exact Or.inr fun ht => h3 ⟨hb, ht⟩
    · exact Or.inl hb
theorem Kid.is_iff {c : Kid} {u p : List UInt8} : c.is u p = true ↔ c.up = u ∧ c.what = p := by simp [Kid.is]

/-- Something else stands at that place: told by the first thing there. -/
theorem SeaS.Ok.first_tells {S : SeaS} (h : S.Ok) (k n b t : List UInt8) : (S.reused || S.other k n b t) = (S.reused || (match S.first k n with | some e => !decide (e.beside = b ∧ e.text = t) | none => false)) := by
  cases hr : S.reused with
  | true => simp
  | false =>
    simp only [Bool.false_or]
    unfold SeaS.first SeaS.other
    cases hf : S.book.find? (fun e => e.at_ k n) with
    | none =>
      rw [List.any_eq_false]
      intro e he hu
      have := List.find?_eq_none.1 hf e he
      exact this (Ent.at_iff.2 ⟨(Ent.un_iff.1 hu).1, (Ent.un_iff.1 hu).2.1⟩)
    | some e0 =>
      have h0 := List.mem_of_find?_eq_some hf
      have h1 := Ent.at_iff.1 (List.find?_some (p := fun e : Ent => e.at_ k n) hf)
      dsimp only
      by_cases hc : e0.beside = b ∧ e0.text = t
      · rw [decide_eq_true hc, Bool.not_true, List.any_eq_false]
        intro e he hu
        obtain ⟨u1, u2, u3⟩ := Ent.un_iff.1 hu
        have := h.one hr e he e0 h0 (u1.trans h1.1.symm) (u2.trans h1.2.symm)
        exact u3 ⟨this.1.trans hc.1, this.2.trans hc.2⟩
      · rw [decide_eq_false hc, Bool.not_false, List.any_eq_true]
        exact ⟨e0, h0, Ent.un_iff.2 ⟨h1.1, h1.2, hc⟩⟩
/-- Noise that was never made stands in no book. -/
theorem SeaS.Ok.fresh {S : SeaS} (h : S.Ok) (hi : S.ideal = true) (k n b : List UInt8) (m : Nat) : S.known k n b (noiseL (S.count + 1) (m + 16)) = none := by
  unfold SeaS.known
  rw [Option.map_eq_none_iff, List.find?_eq_none]
  intro e he hk
  obtain ⟨_, _, _, hs⟩ := Ent.is_iff.1 hk
  obtain ⟨q, hq, hz⟩ := h.nums hi e he
  have hl : e.text.length + 16 = m + 16 := by
    have := congrArg List.length (hz.symm.trans hs)
    rwa [noiseL_length, noiseL_length] at this
  rw [hz, hl] at hs
  have hb := h.bound
  have := (noise_inj (by omega) (by omega) (by omega)).1 hs
  omega
/-- One thing more in the book. -/
def SeaS.add (S : SeaS) (k n b t s : List UInt8) : SeaS := { S with book := S.book ++ [⟨k, n, b, t, s⟩] }
theorem SeaS.seal_add (S : SeaS) (k n b t : List UInt8) : S.seal k n b t = { ({ S with count := S.next } : SeaS).add k n b t (S.made k n b t) with reused := S.reused || S.other k n b t } := rfl
theorem SeaS.first_add (S : SeaS) (k n b t s k' n' : List UInt8) : (S.add k n b t s).first k' n' = match S.first k' n' with | some e => some e | none => if k = k' ∧ n = n' then some ⟨k, n, b, t, s⟩ else none := by
  unfold SeaS.first SeaS.add
  dsimp only
  rw [List.find?_append]
  cases S.book.find? (fun e => e.at_ k' n') with
  | some e => rfl
  | none =>
    simp only [Option.none_or, List.find?_cons, List.find?_nil]
    by_cases hk : k = k' ∧ n = n'
    · rw [if_pos hk, Ent.at_iff.2 hk]
    · rw [if_neg hk]
      have : Ent.at_ ⟨k, n, b, t, s⟩ k' n' = false := by
        rw [Bool.eq_false_iff]
        exact fun h => hk (Ent.at_iff.1 h)
      rw [this]
theorem SeaS.known_add (S : SeaS) (k n b t s k' n' b' s' : List UInt8) : (S.add k n b t s).known k' n' b' s' = match S.known k' n' b' s' with | some e => some e | none => if k = k' ∧ n = n' ∧ b = b' ∧ s = s' then some t else none := by
  unfold SeaS.known SeaS.add
  dsimp only
  rw [List.find?_append]
  cases S.book.find? (fun e => e.is k' n' b' s') with
  | some e => rfl
  | none =>
    simp only [Option.none_or, List.find?_cons, List.find?_nil, Option.map_none]
    by_cases hk : k = k' ∧ n = n' ∧ b = b' ∧ s = s'
    · rw [if_pos hk, Ent.is_iff.2 hk]
      rfl
    · rw [if_neg hk]
      have : Ent.is ⟨k, n, b, t, s⟩ k' n' b' s' = false := by
        rw [Bool.eq_false_iff]
        exact fun h => hk (Ent.is_iff.1 h)
      rw [this]
      rfl
theorem SeaS.Ok.seal {S : SeaS} (h : S.Ok) (hb : S.count + S.book.length + 2 ≤ 1000000) (k n b t : List UInt8) : (S.seal k n b t).Ok := by
  have hnext : S.count ≤ S.next ∧ S.next ≤ S.count + 1 := by unfold SeaS.next; split <;> omega
  refine ⟨fun hi e he => ?_, fun hr e he e' he' h1 h2 => ?_, fun c hc => Nat.le_trans (h.kids c hc) hnext.1, h.apart, ?_⟩
  · simp only [SeaS.seal, List.mem_append, List.mem_singleton] at he
    have hi' : S.ideal = true := hi
    rcases he with he | rfl
    · obtain ⟨q, hq, hz⟩ := h.nums hi e he
      exact ⟨q, Nat.le_trans hq hnext.1, hz⟩
    · refine ⟨S.count + 1, ?_, ?_⟩
      · show S.count + 1 ≤ S.next
        rw [SeaS.next, if_pos hi']
        exact Nat.le_refl _
      · show S.made k n b t = _
        rw [SeaS.made, if_pos hi']
  · have hr' : S.reused = false ∧ S.other k n b t = false := by simpa [SeaS.seal] using hr
    have ho : ∀ x ∈ S.book, x.key = k → x.nonce = n → x.beside = b ∧ x.text = t := fun x hx a1 a2 => by
      by_cases hc : x.beside = b ∧ x.text = t
      · exact hc
      · exact absurd (Ent.un_iff.2 ⟨a1, a2, hc⟩) (List.any_eq_false.1 hr'.2 x hx)
    simp only [SeaS.seal, List.mem_append, List.mem_singleton] at he he'
    rcases he with he | rfl <;> rcases he' with he' | rfl
    · exact h.one hr'.1 e he e' he' h1 h2
    · exact ho e he h1 h2
    · have := ho e' he' h1.symm h2.symm
      exact ⟨this.1.symm, this.2.symm⟩
    · exact ⟨rfl, rfl⟩
  · have : (S.seal k n b t).book.length = S.book.length + 1 := by simp [SeaS.seal]
    rw [this]
    show S.next + _ ≤ _
    omega
theorem SeaS.Ok.opened {S : SeaS} (h : S.Ok) (k n b s : List UInt8) : (S.opened k n b s).Ok := ⟨h.nums, h.one, h.kids, h.apart, h.bound⟩
theorem SeaS.Ok.derive {S : SeaS} (h : S.Ok) (hb : S.count + S.book.length + 2 ≤ 1000000) (u p : List UInt8) : (S.derive u p).Ok := by
  unfold SeaS.derive
  cases hk : S.kid u p with
  | some c => exact h
  | none =>
    refine ⟨fun hi e he => ?_, h.one, fun c hc => ?_, fun c hc c' hc' he => ?_, ?_⟩
    · obtain ⟨q, hq, hz⟩ := h.nums hi e he
      exact ⟨q, Nat.le_succ_of_le hq, hz⟩
    · simp only [List.mem_append, List.mem_singleton] at hc
      rcases hc with hc | rfl
      · exact Nat.le_succ_of_le (h.kids c hc)
      · exact Nat.le_refl _
    · simp only [List.mem_append, List.mem_singleton] at hc hc'
      rcases hc with hc | rfl <;> rcases hc' with hc' | rfl
      · exact h.apart c hc c' hc' he
      · have := h.kids c hc
        dsimp only at he
        omega
      · have := h.kids c' hc'
        dsimp only at he
        omega
      · rfl
    · dsimp only
      have := h.bound
      omega
/-- The number stays a key's, whatever comes. -/
theorem SeaS.kid_derive (S : SeaS) (u p u' p' : List UInt8) : (S.derive u p).kid u' p' = match S.kid u' p' with | some c => some c | none => if u = u' ∧ p = p' then some ⟨u, p, S.count + 1⟩ else none := by
  unfold SeaS.derive
  cases hk : S.kid u p with
  | some c =>
    dsimp only
    cases hk' : S.kid u' p' with
    | some c' => rfl
    | none =>
      dsimp only
      rw [if_neg]
      rintro ⟨rfl, rfl⟩
      rw [hk] at hk'
      cases hk'
  | none =>
    dsimp only
    unfold SeaS.kid
    dsimp only
    rw [List.find?_append]
    cases S.kids.find? (fun c => c.is u' p') with
    | some c => rfl
    | none =>
      simp only [Option.none_or, List.find?_cons, List.find?_nil]
      by_cases he : u = u' ∧ p = p'
      · rw [if_pos he, Kid.is_iff.2 he]
      · rw [if_neg he]
        have : Kid.is ⟨u, p, S.count + 1⟩ u' p' = false := by
          rw [Bool.eq_false_iff]
          exact fun h => he (Kid.is_iff.1 h)
        rw [this]
theorem SeaS.kid_own (S : SeaS) (u p : List UInt8) : (S.derive u p).kid u p = some ⟨u, p, S.num u p⟩ := by
  rw [S.kid_derive]
  unfold SeaS.num
  cases hk : S.kid u p with
  | some c =>
    have := Kid.is_iff.1 (List.find?_some (p := fun c : Kid => c.is u p) (show S.kids.find? (fun c : Kid => c.is u p) = some c from hk))
    obtain ⟨rfl, rfl⟩ := this
    rfl
  | none => simp
theorem SeaS.kid_stays {S : SeaS} {u p : List UInt8} {c : Kid} (h : S.kid u p = some c) (u' p' : List UInt8) : (S.derive u' p').kid u p = some c := by
  rw [S.kid_derive, h]
theorem SeaS.num_of {S : SeaS} {u p : List UInt8} {c : Kid} (h : S.kid u p = some c) : S.num u p = c.num := by
  unfold SeaS.num
  rw [h]
theorem SeaS.num_apart {S : SeaS} (h : S.Ok) {u p u' p' : List UInt8} {c c' : Kid} (hc : S.kid u p = some c) (hc' : S.kid u' p' = some c') : c.num = c'.num ↔ u = u' ∧ p = p' := by
  have h1 := Kid.is_iff.1 (List.find?_some (p := fun c : Kid => c.is u p) (show S.kids.find? (fun c : Kid => c.is u p) = some c from hc))
  have h2 := Kid.is_iff.1 (List.find?_some (p := fun c : Kid => c.is u' p') (show S.kids.find? (fun c : Kid => c.is u' p') = some c' from hc'))
  constructor
  · intro he
    have := h.apart c (List.mem_of_find?_eq_some hc) c' (List.mem_of_find?_eq_some hc') he
    rw [← this] at h2
    exact ⟨h1.1.symm.trans h2.1, h1.2.symm.trans h2.2⟩
  · rintro ⟨rfl, rfl⟩
    rw [hc] at hc'
    rw [Option.some.inj hc']
theorem opens_seal {k n b t : List UInt8} (hk : k.length = 32) (hn : n.length = 12) : opensL k n b (sealL (keyF k) n b t) = some t := by
  have hK := keyF_length hk
  have hl := sealL_length hK hn b t
  unfold opensL
  rw [hl, if_pos (by omega), Nat.add_sub_cancel, if_pos (of_decide_eq_true (open_seal hK hn rfl)), open_text hK hn rfl]

end Go.Proofs.YtfknplcnfpincaaGreat

/-
  Regions that draw their order, with calls and new variables in them: a call whose answer is known, and which only makes memory, may be taken first, if all that follows is shown in every world that has grown. No condition; no statement of the seat is proved here.
-/
namespace Go.Proofs.YtfknplcnfpincaaGreat
open Go.RowKit


/-- The world has only grown. -/
def Grows (w w' : World) : Prop := Below w.heap.size w w'
theorem Grows.refl (w : World) : Grows w w := Below.refl _ _
theorem Grows.trans {a b c : World} (h : Grows a b) (k : Grows b c) : Grows a c := Below.trans h (Below.mono k (Below.size h))

/-- What another operation does to a state in which this one's answer lies already, it does to the state in which it does not lie yet. -/
theorem other_first {P : Program} {ops : Array Oper} {Q : Exit → Act → World → Prop} {j : Nat} {oi oj : Oper} {v : Value} (hj : ops[j]? = some oj) (hap : oi.apart ops oj = true) (hsi : ∀ cs b, oi.op ≠ .select cs b) (hsj : ∀ cs b, oj.op ≠ .select cs b)
    (hQ : ∀ c a w, Q (.panic c) (a.put oi.dst v) w → Q (.panic c) a w) {K : Act → World → Prop} {a : Act} {w : World} (h : wpOp P ops Q j K (a.put oi.dst v) w) :
    wpOp P ops Q j (fun a' w' => (execOp a'.eval oi = execOp a.eval oi ∧ Region.wanted oi (yielded ops a'.tmps) = Region.wanted oi (yielded ops a.tmps)) ∧ K (a'.put oi.dst v) w') a w := by
  obtain ⟨h1, h2, h3⟩ := Oper.apart_spec hap
  have kp : ∀ (b : Act), (execOp b.eval oi = execOp a.eval oi ∧ Region.wanted oi (yielded ops b.tmps) = Region.wanted oi (yielded ops a.tmps)) → ∀ u, execOp (b.put oj.dst u).eval oi = execOp a.eval oi ∧ Region.wanted oi (yielded ops (b.put oj.dst u).tmps) = Region.wanted oi (yielded ops a.tmps) :=
    fun b hb u => ⟨(execOp_put oi hsi b oj.dst u h3).trans hb.1, (wanted_put oi b oj.dst u h3).trans hb.2⟩
  have k0 := kp a ⟨rfl, rfl⟩
  have sw : ∀ (b : Act) u, (b.put oj.dst u).put oi.dst v = (b.put oi.dst v).put oj.dst u := fun b u => (Act.put_comm b v u h2).symm
  have e1 := execOp_put oj hsj a oi.dst v h1
  have e2 := wanted_put oj a oi.dst v h1
  revert h
  unfold wpOp
  simp only [hj, e2]
  by_cases hw : Region.wanted oj (yielded ops a.tmps) = true
  · simp only [hw, if_true]
    rintro (h | ⟨ha, hl⟩)
    · left
      revert h
      unfold Oper.wp
      rw [e1]
      cases (execOp a.eval oj).run P w with
      | halt x w' =>
        intro h
        cases x
        case panic u => exact hQ _ _ _ h
        all_goals exact h
      | ok n w' =>
        intro h
        cases n with
        | value u => exact ⟨k0 u, by rw [sw]; exact h⟩
        | skip => exact ⟨k0 _, by rw [sw]; exact h⟩
        | defer d => exact ⟨kp { a with defers := d :: a.defers } ⟨rfl, rfl⟩ _, by rw [sw, ← Act.put_defers]; exact h⟩
        | enter f args =>
          refine Calls.mono h fun e w'' he => ?_
          cases e with
          | returned u => exact ⟨k0 u, by rw [sw]; exact he⟩
          | panicked c => exact hQ _ _ _ he
          | outgrown => exact he
        | row r args => exact Rows.mono h fun u w'' he => ⟨k0 u, by rw [sw]; exact he⟩
        | _ => exact h
    · right
      refine ⟨?_, hl⟩
      unfold Oper.asks at *
      rw [e1] at ha
      exact ha
  · rw [Bool.not_eq_true] at hw
    simp only [hw, Bool.false_eq_true, if_false]
    intro h
    exact ⟨k0 _, by rw [sw]; exact h⟩


/-- In every world that meets S the operation answers v, and the world has only grown. -/
def Ans (P : Program) (ops : Array Oper) (S : World → Prop) (o : Oper) (v : Value) (a : Act) : Prop :=
  (Region.wanted o (yielded ops a.tmps) = true ∧ ∀ w, S w → (execOp a.eval o).run P w = .ok (.value v) w ∨ ∃ f args, (execOp a.eval o).run P w = .ok (.enter f args) w ∧ Calls P f args w fun e w' => e = .returned v ∧ Grows w w' ∧ S w') ∨
  (Region.wanted o (yielded ops a.tmps) = false ∧ v = undef)
theorem Ans.same {P : Program} {ops : Array Oper} {S : World → Prop} {o : Oper} {v : Value} {a b : Act} (h : Ans P ops S o v a) (he : execOp b.eval o = execOp a.eval o ∧ Region.wanted o (yielded ops b.tmps) = Region.wanted o (yielded ops a.tmps)) : Ans P ops S o v b := by
  unfold Ans at *
  rw [he.1, he.2]
  exact h
theorem Ans.op {P : Program} {ops : Array Oper} {Q : Exit → Act → World → Prop} {S : World → Prop} {i : Nat} {o : Oper} {v : Value} {a : Act} (hi : ops[i]? = some o) (h : Ans P ops S o v a) {K : Act → World → Prop} {w : World} (hS : S w) (k : ∀ w', Grows w w' → S w' → K (a.put o.dst v) w') : wpOp P ops Q i K a w := by
  unfold wpOp
  simp only [hi]
  rcases h with ⟨hw, hv⟩ | ⟨hw, rfl⟩
  · simp only [hw, if_true]
    left
    unfold Oper.wp
    rcases hv w hS with e | ⟨f, args, e, hc⟩
    · rw [e]
      exact k w (Grows.refl w) hS
    · rw [e, Oper.upon_enter]
      refine hc.mono ?_
      rintro e w' ⟨rfl, hg, hs⟩
      exact k w' hg hs
  · simp only [hw, Bool.false_eq_true, if_false]
    exact k w (Grows.refl w) hS

/-- Whatever order is picked from here on, in whatever world has grown of this one. -/
def wpAnyG (P : Program) (md : Region.Mode) (ops : Array Oper) (Q : Exit → Act → World → Prop) (S : World → Prop) : Nat → Array Bool → Act → World → Prop
  | 0, listed, a, w => Region.ready md ops listed = [] ∧ ∀ w', Grows w w' → S w' → Q .normal a w'
  | fuel + 1, listed, a, w => ∀ w', Grows w w' → S w' → (Region.ready md ops listed = [] → Q .normal a w') ∧
      ∀ i ∈ Region.ready md ops listed, wpOp P ops Q i (fun a' w'' => S w'' ∧ wpAnyG P md ops Q S fuel (listed.setIfInBounds i true) a' w'') a w'
theorem wpAnyG.grow {P : Program} {ops : Array Oper} {Q : Exit → Act → World → Prop} {md : Region.Mode} {S : World → Prop} {fuel : Nat} {listed : Array Bool} {a : Act} {w w1 : World} (h : wpAnyG P md ops Q S fuel listed a w) (hg : Grows w w1) : wpAnyG P md ops Q S fuel listed a w1 := by
  cases fuel with
  | zero => exact ⟨h.1, fun w' hw hs => h.2 w' (hg.trans hw) hs⟩
  | succ fuel => exact fun w' hw hs => h w' (hg.trans hw) hs
theorem wpAnyG.any {P : Program} {ops : Array Oper} {Q : Exit → Act → World → Prop} {md : Region.Mode} {S : World → Prop} : ∀ (fuel : Nat) (listed : Array Bool) (a : Act) (w : World), S w → wpAnyG P md ops Q S fuel listed a w → wpAny P md ops Q fuel listed a w
  | 0, _, _, w, hS, h => ⟨h.1, h.2 w (Grows.refl w) hS⟩
  | fuel + 1, _, _, w, hS, h => by
    obtain ⟨h1, h2⟩ := h w (Grows.refl w) hS
    exact ⟨h1, fun i hi => wpOp_mono (fun a' w' hh => wpAnyG.any fuel _ a' w' hh.1 hh.2) (h2 i hi)⟩

theorem firstG {P : Program} {ops : Array Oper} {Q : Exit → Act → World → Prop} {md : Region.Mode} {S : World → Prop} {i : Nat} {oi : Oper} {v : Value} (hi : ops[i]? = some oi) (hsel : ∀ (j : Nat) (o : Oper) cs b, ops[j]? = some o → o.op ≠ .select cs b) (hQ : ∀ c a w, Q (.panic c) (a.put oi.dst v) w → Q (.panic c) a w) :
    ∀ (fuel : Nat) (listed : Array Bool) (a : Act) (w : World),
      (∀ j oj, ops[j]? = some oj → j ≠ i → listed.getD j true = false → (∀ e ∈ oj.after, Region.binds md e = true → e.on ≠ i) → oi.apart ops oj = true) →
      i ∈ Region.ready md ops listed → Ans P ops S oi v a → wpAnyG P md ops Q S fuel (listed.setIfInBounds i true) (a.put oi.dst v) w → wpAnyG P md ops Q S (fuel + 1) listed a w := by
  intro fuel
  induction fuel with
  | zero =>
    intro listed a w _ hr hy H w' hg hS
    refine ⟨fun h => (by rw [h] at hr; cases hr), fun j hj => ?_⟩
    by_cases e : j = i
    · rw [e]
      exact hy.op hi hS fun w'' hg' hs => ⟨hs, H.1, fun w3 h3 hs3 => H.2 w3 (hg.trans (hg'.trans h3)) hs3⟩
    · have := ready_mono hj e
      rw [H.1] at this
      cases this
  | succ fuel ih =>
    intro listed a w hfree hr hy H w' hg hS
    refine ⟨fun h => (by rw [h] at hr; cases hr), fun j hj => ?_⟩
    by_cases e : j = i
    · rw [e]
      exact hy.op hi hS fun w'' hg' hs => ⟨hs, wpAnyG.grow H (hg.trans hg')⟩
    · obtain ⟨hun, oj, hoj, hall⟩ := mem_ready.1 hj
      have hno : ∀ e ∈ oj.after, Region.binds md e = true → e.on ≠ i := fun x hx hb hxi => by
        have h1 := hall x hx hb
        have h0 := (mem_ready.1 hr).1
        rw [hxi] at h1
        rcases Nat.lt_or_ge i listed.size with hl | hl
        · simp [hl] at h0 h1
          rw [h0] at h1
          cases h1
        · simp [Array.getElem?_eq_none hl] at h1
      have hk := other_first hoj (hfree j oj hoj e hun hno) (fun cs b => hsel i oi cs b hi) (fun cs b => hsel j oj cs b hoj) hQ ((H w' hg hS).2 j (ready_mono hj e))
      refine wpOp_mono (fun a' w'' hh => ⟨hh.2.1, ih (listed.setIfInBounds j true) a' w'' ?_ (ready_mono hr (Ne.symm e)) (hy.same hh.1) ?_⟩) hk
      · intro k ok hk hki hun' hno'
        refine hfree k ok hk hki ?_ hno'
        by_cases hjk : j = k
        · rw [← hjk]; exact hun
        · rw [getD_set_ne true hjk] at hun'; exact hun'
      · rw [Array.setIfInBounds_comm _ _ e]
        exact hh.2.2

/-- Take number i first. -/
theorem takeG {P : Program} {ops : Array Oper} {Q : Exit → Act → World → Prop} {md : Region.Mode} {S : World → Prop} (i : Nat) (d : Option Tmp) (v : Value) {oi : Oper} {fuel : Nat} {listed : Array Bool} {a : Act} {w : World} (hi : ops[i]? = some oi) (hd : oi.dst = d)
    (hs : Region.noSelect ops = true) (hf : Region.free md ops listed i = true) (hr : (Region.ready md ops listed).contains i = true)
    (hQ : ∀ c a w, Q (.panic c) (a.put d v) w → Q (.panic c) a w) (hy : Ans P ops S oi v a)
    (h : wpAnyG P md ops Q S fuel (listed.setIfInBounds i true) (a.put d v) w) : wpAnyG P md ops Q S (fuel + 1) listed a w := by
  subst hd
  exact firstG hi (Region.noSelect_spec hs) hQ fuel listed a w (Region.free_spec hi hf) (by simpa using hr) hy h
/-- What only reckons. -/
theorem ans_plain {P : Program} {ops : Array Oper} {S : World → Prop} {oi : Oper} {v : Value} {a : Act} (hw : Region.wanted oi (yielded ops a.tmps) = true) (h : ∀ w, S w → (execOp a.eval oi).run P w = .ok (.value v) w) : Ans P ops S oi v a :=
  Or.inl ⟨hw, fun w hS => Or.inl (h w hS)⟩
/-- A call. -/
theorem ans_call {P : Program} {ops : Array Oper} {S : World → Prop} (f : FuncId) (args : Array Operand) (tys : Array TypeId) (vs : Array Value) {oi : Oper} {v : Value} {a : Act} (ho : oi.op = .call { callee := .value (.func f), args := args, argTypes := tys }) (hw : Region.wanted oi (yielded ops a.tmps) = true) (hv : (args.toList.map a.eval).toArray = vs)
    (hc : ∀ vs w, (callFunc f vs).run P w = .ok (.enter f vs) w) (h : ∀ w, S w → Calls P f vs w fun e w' => e = .returned v ∧ Grows w w' ∧ S w') : Ans P ops S oi v a := by
  have hv' : args.map a.eval = vs := by rw [← hv]; apply Array.toList_inj.1; rw [Array.toList_map]
  subst hv'
  refine Or.inl ⟨hw, fun w hS => Or.inr ⟨f, args.map a.eval, ?_, h w hS⟩⟩
  simp [execOp, ho, resolve, invoke, Act.eval, Deferred.ofValue, hc]
/-- The one that may come up. -/
theorem oneG {P : Program} {ops : Array Oper} {Q : Exit → Act → World → Prop} {md : Region.Mode} {S : World → Prop} (i : Nat) {fuel : Nat} {listed : Array Bool} {a : Act} {w : World} (hr : Region.ready md ops listed = [i])
    (h : ∀ w', Grows w w' → S w' → wpOp P ops Q i (fun a' w'' => S w'' ∧ wpAnyG P md ops Q S fuel (listed.setIfInBounds i true) a' w'') a w') : wpAnyG P md ops Q S (fuel + 1) listed a w :=
  fun w' hg hS => ⟨fun h0 => (by rw [h0] at hr; cases hr), fun j hj => by
    rw [hr] at hj
    rw [List.mem_singleton.1 hj]
    exact h w' hg hS⟩
theorem doneG {P : Program} {ops : Array Oper} {Q : Exit → Act → World → Prop} {md : Region.Mode} {S : World → Prop} {fuel : Nat} {listed : Array Bool} {a : Act} {w : World} (hr : Region.ready md ops listed = []) (h : ∀ w', Grows w w' → S w' → Q .normal a w') : wpAnyG P md ops Q S fuel listed a w := by
  cases fuel with
  | zero => exact ⟨hr, h⟩
  | succ fuel => exact fun w' hg hS => ⟨fun _ => h w' hg hS, fun j hj => by rw [hr] at hj; cases hj⟩
/-- The beginning. -/
theorem regionG {P : Program} {ops : Array Oper} {Q : Exit → Act → World → Prop} {S : World → Prop} {id : Nat} {a : Act} {w : World} (hm : P.follows .mixedOrders = true) (hS : S w.drew) (h : wpAnyG P .any ops Q S ops.size (Array.replicate ops.size false) a w.drew) : (Code.region id ops true).wp P Q a w :=
  wp_region_any hm (wpAnyG.any _ _ _ _ hS h)

/-- An operation that makes a variable. -/
def Makes (P : Program) (ops : Array Oper) (i : Nat) (d : Tmp) (cells : Array Value) (t : TypeId) : Prop :=
  ∃ o, ops[i]? = some o ∧ o.dst = some d ∧ o.guard = none ∧ ∀ (ρ : Operand → Value) (w : World), (execOp ρ o).run P w = .ok (.value (.pointer (some ⟨w.heap.size, 0, none⟩))) (w.alloc (.cells cells t))
theorem Makes.op {P : Program} {ops : Array Oper} {Q : Exit → Act → World → Prop} {i : Nat} {d : Tmp} {cells : Array Value} {t : TypeId} (h : Makes P ops i d cells t) {K : Act → World → Prop} {a : Act} {w : World} (k : K (a.put (some d) (.pointer (some ⟨w.heap.size, 0, none⟩))) (w.alloc (.cells cells t))) : wpOp P ops Q i K a w := by
  obtain ⟨o, hi, hd, hg, hx⟩ := h
  unfold wpOp
  simp only [hi]
  rw [if_pos (by simp [Region.wanted, hg])]
  left
  unfold Oper.wp
  rw [hx, Oper.upon_value, hd]
  exact k
theorem ans_eqB {ops : Array Oper} {S : World → Prop} {oi : Oper} {a : Act} (x y : Operand) (ho : oi.op = .binOp .eql 4 x y 4) (hw : Region.wanted oi (yielded ops a.tmps) = true) (p : Bool) (hx : a.eval x = .bool p) (hy : a.eval y = .bool p) : Ans Tryz.prog ops S oi (.bool true) a := by
  refine ans_plain hw fun w hS => ?_
  unfold execOp
  simp only [ho, hx, hy]
  go_simp
/-- A call that only makes memory, in whatever world has grown of W. -/
theorem ans_fn {ops : Array Oper} {W : World} {oi : Oper} {a : Act} (f : FuncId) (args : Array Operand) (tys : Array TypeId) (vs : Array Value) {v : Value} (ho : oi.op = .call { callee := .value (.func f), args := args, argTypes := tys }) (hw : Region.wanted oi (yielded ops a.tmps) = true) (hv : (args.toList.map a.eval).toArray = vs)
    (hc : ∀ vs w, (callFunc f vs).run Tryz.prog w = .ok (.enter f vs) w) (h : ∀ w, Grows W w → Calls Tryz.prog f vs w fun e w' => e = .returned v ∧ Below w.heap.size w w') : Ans Tryz.prog ops (Grows W) oi v a :=
  ans_call f args tys vs ho hw hv hc fun w hg => (h w hg).mono fun _ _ h2 => ⟨h2.1, h2.2, Grows.trans hg h2.2⟩
/-- A call whose answer lies in new memory: the one that may come up. -/
theorem callG {ops : Array Oper} {Q : Exit → Act → World → Prop} {md : Region.Mode} {S : World → Prop} (i : Nat) (d : Option Tmp) (f : FuncId) (args : Array Operand) (tys : Array TypeId) (vs : Array Value) {oi : Oper} {fuel : Nat} {listed : Array Bool} {a : Act} {w : World} (hi : ops[i]? = some oi) (hd : oi.dst = d)
    (ho : oi.op = .call { callee := .value (.func f), args := args, argTypes := tys }) (hw : Region.wanted oi (yielded ops a.tmps) = true) (hv : (args.toList.map a.eval).toArray = vs) (hr : Region.ready md ops listed = [i]) (hc : ∀ vs w, (callFunc f vs).run Tryz.prog w = .ok (.enter f vs) w)
    (h : ∀ w', Grows w w' → S w' → Calls Tryz.prog f vs w' fun e w'' => ∃ v, e = .returned v ∧ S w'' ∧ wpAnyG Tryz.prog md ops Q S fuel (listed.setIfInBounds i true) (a.put d v) w'') : wpAnyG Tryz.prog md ops Q S (fuel + 1) listed a w := by
  subst hd
  have hv' : args.map a.eval = vs := by rw [← hv]; apply Array.toList_inj.1; rw [Array.toList_map]
  subst hv'
  refine oneG i hr fun w' hg hS => ?_
  unfold wpOp
  simp only [hi]
  rw [if_pos hw]
  left
  unfold Oper.wp
  have hx : (execOp a.eval oi).run Tryz.prog w' = .ok (.enter f (args.map a.eval)) w' := by simp [execOp, ho, resolve, invoke, Act.eval, Deferred.ofValue, hc]
  rw [hx, Oper.upon_enter]
  refine (h w' hg hS).mono ?_
  rintro e w'' ⟨v, rfl, hs, hh⟩
  exact ⟨hs, hh⟩

end Go.Proofs.YtfknplcnfpincaaGreat

/-
  Regions that draw their order and end in an operation that writes what they read: what is kept holds until that operation, number e, is done, and e waits for every operation that is taken. No condition; no statement of the seat is proved here.
-/
namespace Go.Proofs.YtfknplcnfpincaaGreat
open Go.RowKit

/-- What is kept, as long as number e has not been done. -/
def okE (S : World → Prop) (e : Nat) (listed : Array Bool) (w : World) : Prop := listed.getD e true = true ∨ S w
theorem okE.got {S : World → Prop} {e : Nat} {listed : Array Bool} {w : World} (h : okE S e listed w) (he : listed.getD e true = false) : S w := by
  rcases h with h | h
  · rw [he] at h; cases h
  · exact h
/-- Whatever order is picked from here on, in whatever world has grown of this one. -/
def wpAnyE (P : Program) (md : Region.Mode) (ops : Array Oper) (Q : Exit → Act → World → Prop) (S : World → Prop) (e : Nat) : Nat → Array Bool → Act → World → Prop
  | 0, listed, a, w => Region.ready md ops listed = [] ∧ ∀ w', Grows w w' → okE S e listed w' → Q .normal a w'
  | fuel + 1, listed, a, w => ∀ w', Grows w w' → okE S e listed w' → (Region.ready md ops listed = [] → Q .normal a w') ∧
      ∀ i ∈ Region.ready md ops listed, wpOp P ops Q i (fun a' w'' => okE S e (listed.setIfInBounds i true) w'' ∧ wpAnyE P md ops Q S e fuel (listed.setIfInBounds i true) a' w'') a w'
theorem wpAnyE.grow {P : Program} {ops : Array Oper} {Q : Exit → Act → World → Prop} {md : Region.Mode} {S : World → Prop} {e : Nat} {fuel : Nat} {listed : Array Bool} {a : Act} {w w1 : World} (h : wpAnyE P md ops Q S e fuel listed a w) (hg : Grows w w1) : wpAnyE P md ops Q S e fuel listed a w1 := by
  cases fuel with
  | zero => exact ⟨h.1, fun w' hw hs => h.2 w' (hg.trans hw) hs⟩
  | succ fuel => exact fun w' hw hs => h w' (hg.trans hw) hs
theorem wpAnyE.any {P : Program} {ops : Array Oper} {Q : Exit → Act → World → Prop} {md : Region.Mode} {S : World → Prop} {e : Nat} : ∀ (fuel : Nat) (listed : Array Bool) (a : Act) (w : World), okE S e listed w → wpAnyE P md ops Q S e fuel listed a w → wpAny P md ops Q fuel listed a w
  | 0, _, _, w, hS, h => ⟨h.1, h.2 w (Grows.refl w) hS⟩
  | fuel + 1, _, _, w, hS, h => by
    obtain ⟨h1, h2⟩ := h w (Grows.refl w) hS
    exact ⟨h1, fun i hi => wpOp_mono (fun a' w' hh => wpAnyE.any fuel _ a' w' hh.1 hh.2) (h2 i hi)⟩
theorem firstE {P : Program} {ops : Array Oper} {Q : Exit → Act → World → Prop} {md : Region.Mode} {S : World → Prop} {e i : Nat} {oi : Oper} {v : Value} (hi : ops[i]? = some oi) (hsel : ∀ (j : Nat) (o : Oper) cs b, ops[j]? = some o → o.op ≠ .select cs b) (hQ : ∀ c a w, Q (.panic c) (a.put oi.dst v) w → Q (.panic c) a w) (hie : i ≠ e)
    (hdep : ∀ oe, ops[e]? = some oe → ∃ x ∈ oe.after, Region.binds md x = true ∧ x.on = i) :
    ∀ (fuel : Nat) (listed : Array Bool) (a : Act) (w : World), listed.getD e true = false →
      (∀ j oj, ops[j]? = some oj → j ≠ i → listed.getD j true = false → (∀ e ∈ oj.after, Region.binds md e = true → e.on ≠ i) → oi.apart ops oj = true) →
      i ∈ Region.ready md ops listed → Ans P ops S oi v a → wpAnyE P md ops Q S e fuel (listed.setIfInBounds i true) (a.put oi.dst v) w → wpAnyE P md ops Q S e (fuel + 1) listed a w := by
  intro fuel
  induction fuel with
  | zero =>
    intro listed a w he _ hr hy H w' hg hS
    refine ⟨fun h => (by rw [h] at hr; cases hr), fun j hj => ?_⟩
    by_cases c : j = i
    · rw [c]
      exact hy.op hi (hS.got he) fun w'' hg' hs => ⟨Or.inr hs, H.1, fun w3 h3 hs3 => H.2 w3 (hg.trans (hg'.trans h3)) hs3⟩
    · have := ready_mono hj c
      rw [H.1] at this
      cases this
  | succ fuel ih =>
    intro listed a w he hfree hr hy H w' hg hS
    refine ⟨fun h => (by rw [h] at hr; cases hr), fun j hj => ?_⟩
    by_cases c : j = i
    · rw [c]
      exact hy.op hi (hS.got he) fun w'' hg' hs => ⟨Or.inr hs, wpAnyE.grow H (hg.trans hg')⟩
    · obtain ⟨hun, oj, hoj, hall⟩ := mem_ready.1 hj
      have hno : ∀ e ∈ oj.after, Region.binds md e = true → e.on ≠ i := fun x hx hb hxi => by
        have h1 := hall x hx hb
        have h0 := (mem_ready.1 hr).1
        rw [hxi] at h1
        rcases Nat.lt_or_ge i listed.size with hl | hl
        · simp [hl] at h0 h1
          rw [h0] at h1
          cases h1
        · simp [Array.getElem?_eq_none hl] at h1
      have hje : j ≠ e := fun q => by
        subst q
        obtain ⟨x, hx, hb, hxi⟩ := hdep oj hoj
        exact hno x hx hb hxi
      have hei : (listed.setIfInBounds i true).getD e true = false := by rw [getD_set_ne true hie]; exact he
      have hej : (listed.setIfInBounds j true).getD e true = false := by rw [getD_set_ne true hje]; exact he
      have hk := other_first hoj (hfree j oj hoj c hun hno) (fun cs b => hsel i oi cs b hi) (fun cs b => hsel j oj cs b hoj) hQ ((H w' hg (Or.inr (hS.got he))).2 j (ready_mono hj c))
      refine wpOp_mono (fun a' w'' hh => ⟨Or.inr (hh.2.1.got (by rw [getD_set_ne true hje]; exact hei)), ih (listed.setIfInBounds j true) a' w'' hej ?_ (ready_mono hr (Ne.symm c)) (hy.same hh.1) ?_⟩) hk
      · intro k ok hk hki hun' hno'
        refine hfree k ok hk hki ?_ hno'
        by_cases hjk : j = k
        · rw [← hjk]; exact hun
        · rw [getD_set_ne true hjk] at hun'; exact hun'
      · rw [Array.setIfInBounds_comm _ _ c]
        exact hh.2.2
/-- Number e waits for number i. -/
def waits (md : Region.Mode) (ops : Array Oper) (e i : Nat) : Bool := (i != e) && (match ops[e]? with | some oe => oe.after.any (fun x => Region.binds md x && x.on == i) | none => false)
theorem waits_spec {md : Region.Mode} {ops : Array Oper} {e i : Nat} (h : waits md ops e i = true) : i ≠ e ∧ ∀ oe, ops[e]? = some oe → ∃ x ∈ oe.after, Region.binds md x = true ∧ x.on = i := by
  unfold waits at h
  rw [Bool.and_eq_true] at h
  refine ⟨by simpa using h.1, fun oe hoe => ?_⟩
  have h2 := h.2
  rw [hoe] at h2
  simp only [Array.any_eq_true'] at h2
  obtain ⟨x, hx, hb⟩ := h2
  rw [Bool.and_eq_true] at hb
  exact ⟨x, hx, hb.1, by simpa using hb.2⟩
/-- Take number i first. -/
theorem takeE {P : Program} {ops : Array Oper} {Q : Exit → Act → World → Prop} {md : Region.Mode} {S : World → Prop} {e : Nat} (i : Nat) (d : Option Tmp) (v : Value) {oi : Oper} {fuel : Nat} {listed : Array Bool} {a : Act} {w : World} (hi : ops[i]? = some oi) (hd : oi.dst = d)
    (hs : Region.noSelect ops = true) (hf : Region.free md ops listed i = true) (hr : (Region.ready md ops listed).contains i = true) (hwt : waits md ops e i = true) (he : listed.getD e true = false)
    (hQ : ∀ c a w, Q (.panic c) (a.put d v) w → Q (.panic c) a w) (hy : Ans P ops S oi v a)
    (h : wpAnyE P md ops Q S e fuel (listed.setIfInBounds i true) (a.put d v) w) : wpAnyE P md ops Q S e (fuel + 1) listed a w := by
  subst hd
  exact firstE hi (Region.noSelect_spec hs) hQ (waits_spec hwt).1 (waits_spec hwt).2 fuel listed a w he (Region.free_spec hi hf) (by simpa using hr) hy h
/-- The one that may come up, ahead of number e. -/
theorem oneE {P : Program} {ops : Array Oper} {Q : Exit → Act → World → Prop} {md : Region.Mode} {S : World → Prop} {e : Nat} (i : Nat) {fuel : Nat} {listed : Array Bool} {a : Act} {w : World} (hr : Region.ready md ops listed = [i]) (he : listed.getD e true = false)
    (h : ∀ w', Grows w w' → S w' → wpOp P ops Q i (fun a' w'' => S w'' ∧ wpAnyE P md ops Q S e fuel (listed.setIfInBounds i true) a' w'') a w') : wpAnyE P md ops Q S e (fuel + 1) listed a w :=
  fun w' hg hS => ⟨fun h0 => (by rw [h0] at hr; cases hr), fun j hj => by
    rw [hr] at hj
    rw [List.mem_singleton.1 hj]
    exact wpOp_mono (fun _ _ hh => ⟨Or.inr hh.1, hh.2⟩) (h w' hg (hS.got he))⟩
/-- Number e itself, the last one. -/
theorem lastE {P : Program} {ops : Array Oper} {Q : Exit → Act → World → Prop} {md : Region.Mode} {S : World → Prop} {e : Nat} {fuel : Nat} {listed : Array Bool} {a : Act} {w : World} (hr : Region.ready md ops listed = [e]) (he : listed.getD e true = false) (hl : (listed.setIfInBounds e true).getD e true = true) (hz : Region.ready md ops (listed.setIfInBounds e true) = [])
    (h : ∀ w', Grows w w' → S w' → wpOp P ops Q e (fun a' w'' => ∀ w3, Grows w'' w3 → Q .normal a' w3) a w') : wpAnyE P md ops Q S e (fuel + 1) listed a w :=
  fun w' hg hS => ⟨fun h0 => (by rw [h0] at hr; cases hr), fun j hj => by
    rw [hr] at hj
    rw [List.mem_singleton.1 hj]
    refine wpOp_mono (fun a' w'' hh => ⟨Or.inl hl, ?_⟩) (h w' hg (hS.got he))
    cases fuel with
    | zero => exact ⟨hz, fun w3 h3 _ => hh w3 h3⟩
    | succ fuel => exact fun w3 h3 _ => ⟨fun _ => hh w3 h3, fun j hj => by rw [hz] at hj; cases hj⟩⟩
/-- The beginning. -/
theorem regionE {P : Program} {ops : Array Oper} {Q : Exit → Act → World → Prop} {S : World → Prop} (e : Nat) {id : Nat} {a : Act} {w : World} (hm : P.follows .mixedOrders = true) (hS : S w.drew) (h : wpAnyE P .any ops Q S e ops.size (Array.replicate ops.size false) a w.drew) : (Code.region id ops true).wp P Q a w :=
  wp_region_any hm (wpAnyE.any _ _ _ _ (Or.inr hS) h)
/-- A call whose answer lies in new memory: the one that may come up. -/
theorem callE {ops : Array Oper} {Q : Exit → Act → World → Prop} {md : Region.Mode} {S : World → Prop} {e : Nat} (i : Nat) (d : Option Tmp) (f : FuncId) (args : Array Operand) (tys : Array TypeId) (vs : Array Value) {oi : Oper} {fuel : Nat} {listed : Array Bool} {a : Act} {w : World} (hi : ops[i]? = some oi) (hd : oi.dst = d)
    (ho : oi.op = .call { callee := .value (.func f), args := args, argTypes := tys }) (hw : Region.wanted oi (yielded ops a.tmps) = true) (hv : (args.toList.map a.eval).toArray = vs) (hr : Region.ready md ops listed = [i]) (he : listed.getD e true = false) (hc : ∀ vs w, (callFunc f vs).run Tryz.prog w = .ok (.enter f vs) w)
    (h : ∀ w', Grows w w' → S w' → Calls Tryz.prog f vs w' fun x w'' => ∃ v, x = .returned v ∧ S w'' ∧ wpAnyE Tryz.prog md ops Q S e fuel (listed.setIfInBounds i true) (a.put d v) w'') : wpAnyE Tryz.prog md ops Q S e (fuel + 1) listed a w := by
  subst hd
  have hv' : args.map a.eval = vs := by rw [← hv]; apply Array.toList_inj.1; rw [Array.toList_map]
  subst hv'
  refine oneE i hr he fun w' hg hS => ?_
  unfold wpOp
  simp only [hi]
  rw [if_pos hw]
  left
  unfold Oper.wp
  have hx : (execOp a.eval oi).run Tryz.prog w' = .ok (.enter f (args.map a.eval)) w' := by simp [execOp, ho, resolve, invoke, Act.eval, Deferred.ofValue, hc]
  rw [hx, Oper.upon_enter]
  refine (h w' hg hS).mono ?_
  rintro x w'' ⟨v, rfl, hs, hh⟩
  exact ⟨hs, hh⟩

end Go.Proofs.YtfknplcnfpincaaGreat
