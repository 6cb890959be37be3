/-
  8 texts in one. No statement of the seat is proved here.
-/
import Derived.Test.YtlenmkhmkommcaaGreatJ13
import Derived.MapKept
import Derived.DeepKeys3
/-
  An element's bytes and back: plain mathematics ahead of layer 5's code. No condition but sixteen bytes; nothing of the program.
-/
namespace Go.Proofs.YtlenmkhmkommcaaGreat
open Go.RowKit

/-- Bit s of a byte, the highest first. -/
def bitH (b : UInt8) (s : Nat) : Bool := decide ((b >>> UInt8.ofNat (7 - s)) &&& 1 = 1)
def bitsH (f : Nat → Bool) : UInt8 := UInt8.ofNat ((List.range 8).foldl (fun n s => 2 * n + (f s).toNat) 0)
theorem byF_length (a : Fe) : (byF a).length = 16 := byS_length a 128
end Go.Proofs.YtlenmkhmkommcaaGreat

/-
  Plain mathematics of layer 6: blocks of a nonce and a number, a text under them, the tag; there and back. Conditions: a key's 240 bytes, a nonce of 12; nothing of the program.
-/
namespace Go.Proofs.YtlenmkhmkommcaaGreat

/-- The sealed block of a nonce and a number. -/
def ctrK (K nonce : List UInt8) (n : Nat) : List UInt8 := aesL K (nonce ++ putL n 4)
theorem ctrK_length {K nonce : List UInt8} (hK : K.length = 240) (hn : nonce.length = 12) (n : Nat) : (ctrK K nonce n).length = 16 :=
  blkS_length hK (by rw [List.length_append, hn, putL_length]) (Nat.le_refl _)
/-- The element of a key. -/
def hKey (K : List UInt8) : Fe := feB (aesL K (List.replicate 16 0))
/-- A text under blocks, behind k of them. -/
def strm (K nonce l : List UInt8) : Nat → List UInt8
  | 0 => []
  | k + 1 => strm K nonce l k ++ xorL ((l.drop (16 * k)).take 16) (ctrK K nonce (2 + k))
def strL (K nonce l : List UInt8) : List UInt8 := strm K nonce l ((l.length + 15) / 16)
/-- Its i-th byte. -/
def strB (K nonce l : List UInt8) (i : Nat) : UInt8 := l.getD i 0 ^^^ (ctrK K nonce (2 + i / 16)).getD (i % 16) 0
theorem xorG {l m : List UInt8} {i : Nat} (h1 : i < l.length) (h2 : i < m.length) : (xorL l m)[i]? = some (l.getD i 0 ^^^ m.getD i 0) := by
  unfold xorL
  rw [List.getElem?_zipWith, List.getElem?_eq_getElem h1, List.getElem?_eq_getElem h2, List.getD_eq_getElem?_getD, List.getElem?_eq_getElem h1, List.getD_eq_getElem?_getD, List.getElem?_eq_getElem h2]
  rfl
theorem strm_is {K nonce l : List UInt8} (hK : K.length = 240) (hn : nonce.length = 12) (k : Nat) : strm K nonce l k = (List.range (min (16 * k) l.length)).map (strB K nonce l) := by
  induction k with
  | zero => simp [strm]
  | succ k ih =>
    have hc := ctrK_length hK hn (2 + k)
    have hx : (xorL ((l.drop (16 * k)).take 16) (ctrK K nonce (2 + k))).length = min 16 (l.length - 16 * k) := by
      unfold xorL
      rw [List.length_zipWith, hc, List.length_take, List.length_drop]
      omega
    rw [strm, ih]
    apply List.ext_getElem?
    intro i
    by_cases h1 : i < min (16 * k) l.length
    · rw [List.getElem?_append_left (by simp; omega)]
      rw [List.getElem?_map, List.getElem?_map, List.getElem?_range h1, List.getElem?_range (by omega)]
    · rw [List.getElem?_append_right (by simp; omega)]
      rw [List.length_map, List.length_range]
      by_cases h2 : i < min (16 * (k + 1)) l.length
      · have hq : min (16 * k) l.length = 16 * k := by omega
        rw [hq, List.getElem?_map, List.getElem?_range h2]
        have h3 : i - 16 * k < ((l.drop (16 * k)).take 16).length := by rw [List.length_take, List.length_drop]; omega
        rw [xorG h3 (by rw [hc]; omega), Option.map_some]
        unfold strB
        rw [show 2 + i / 16 = 2 + k from by omega, show i % 16 = i - 16 * k from by omega]
        rw [show ((l.drop (16 * k)).take 16).getD (i - 16 * k) 0 = l.getD i 0 from by
          rw [List.getD_eq_getElem?_getD, List.getElem?_take_of_lt (by omega), List.getElem?_drop, List.getD_eq_getElem?_getD, show 16 * k + (i - 16 * k) = i from by omega]]
      · rw [List.getElem?_eq_none (by rw [hx]; omega), List.getElem?_eq_none (by simp; omega)]
theorem strL_is {K nonce l : List UInt8} (hK : K.length = 240) (hn : nonce.length = 12) : strL K nonce l = (List.range l.length).map (strB K nonce l) := by
  unfold strL
  rw [strm_is hK hn, show min (16 * ((l.length + 15) / 16)) l.length = l.length from by omega]
theorem strL_length {K nonce l : List UInt8} (hK : K.length = 240) (hn : nonce.length = 12) : (strL K nonce l).length = l.length := by
  rw [strL_is hK hn]
  simp
/-- There and back. -/
theorem strL_back {K nonce l : List UInt8} (hK : K.length = 240) (hn : nonce.length = 12) : strL K nonce (strL K nonce l) = l := by
  rw [strL_is hK hn (l := strL K nonce l), strL_length hK hn]
  apply List.ext_getElem (by simp)
  intro i h1 h2
  rw [List.getElem_map, List.getElem_range]
  unfold strB
  rw [show (strL K nonce l).getD i 0 = strB K nonce l i from by
    rw [strL_is hK hn, List.getD_eq_getElem?_getD, List.getElem?_map, List.getElem?_range h2]
    rfl]
  unfold strB
  rw [UInt8.xor_assoc, UInt8.xor_self, UInt8.xor_zero, List.getD_eq_getElem?_getD, List.getElem?_eq_getElem h2]
  rfl
/-- Eight times the lengths of two rows. -/
def lens (a b : List UInt8) : List UInt8 := putL (8 * a.length) 8 ++ putL (8 * b.length) 8
/-- The tag of what is sealed. -/
def tagL (K nonce beside s : List UInt8) : List UInt8 := xorL (byF (hashF (hKey K) (hashF (hKey K) (hashF (hKey K) 0 beside) s) (lens beside s))) (ctrK K nonce 1)
theorem tagL_length {K nonce : List UInt8} (hK : K.length = 240) (hn : nonce.length = 12) (beside s : List UInt8) : (tagL K nonce beside s).length = 16 := by
  unfold tagL xorL
  rw [List.length_zipWith, byF_length, ctrK_length hK hn]
  rfl
def sealL (K nonce beside text : List UInt8) : List UInt8 := strL K nonce text ++ tagL K nonce beside (strL K nonce text)
theorem sealL_length {K nonce : List UInt8} (hK : K.length = 240) (hn : nonce.length = 12) (beside text : List UInt8) : (sealL K nonce beside text).length = text.length + 16 := by
  unfold sealL
  rw [List.length_append, strL_length hK hn, tagL_length hK hn]

end Go.Proofs.YtlenmkhmkommcaaGreat

/-
  Sealed, and opened: plain. Conditions: a key's 240 bytes, a nonce of 12; nothing of the program.
-/
namespace Go.Proofs.YtlenmkhmkommcaaGreat

theorem seal_take {K nonce be t : List UInt8} (hK : K.length = 240) (hn : nonce.length = 12) {n : Nat} (ht : t.length = n) : (sealL K nonce be t).take n = strL K nonce t := by
  have h : (strL K nonce t).length = n := by rw [strL_length hK hn, ht]
  unfold sealL
  rw [List.take_append_of_le_length (by omega), List.take_of_length_le (by omega)]
theorem seal_drop {K nonce be t : List UInt8} (hK : K.length = 240) (hn : nonce.length = 12) {n : Nat} (ht : t.length = n) : (sealL K nonce be t).drop n = tagL K nonce be (strL K nonce t) := by
  have h : (strL K nonce t).length = n := by rw [strL_length hK hn, ht]
  unfold sealL
  rw [← h, List.drop_left]
theorem open_seal {K nonce be t : List UInt8} (hK : K.length = 240) (hn : nonce.length = 12) {n : Nat} (ht : t.length = n) : decide (tagL K nonce be ((sealL K nonce be t).take n) = (sealL K nonce be t).drop n) = true := by
  rw [seal_take hK hn ht, seal_drop hK hn ht]
  exact decide_eq_true rfl
theorem open_text {K nonce be t : List UInt8} (hK : K.length = 240) (hn : nonce.length = 12) {n : Nat} (ht : t.length = n) : strL K nonce ((sealL K nonce be t).take n) = t := by
  rw [seal_take hK hn ht, strL_back hK hn]
end Go.Proofs.YtlenmkhmkommcaaGreat

/-
  Rows of words of 32 bits in memory, as of bytes: what a slice of words holds ('Ws'), rows that a call made itself ('Owd'), append and make over them. No condition; no statement of the seat is proved here.
-/
namespace Go.Proofs.YtlenmkhmkommcaaGreat
open Go.RowKit

/-- The i-th byte as a number. -/
def wt (l : List UInt32) (i : Nat) : Int := ((l.getD i 0).toNat : Int)

/-- The slice (a, n, c) holds the bytes l. -/
def Ws (w : World) (a : Option Addr) (n c : Nat) (l : List UInt32) : Prop :=
  l.length = n ∧ n ≤ c ∧ c ≤ maxLen ∧ (a = none → c = 0) ∧ ∀ i, i < n → ∃ b o, a = some ⟨b, o, none⟩ ∧ w.cell? ⟨b, o + i, none⟩ = some (.int .u32 (wt l i))

theorem Ws.len {w : World} {a : Option Addr} {n c : Nat} {l : List UInt32} (h : Ws w a n c l) : l.length = n := h.1
theorem Ws.cap {w : World} {a : Option Addr} {n c : Nat} {l : List UInt32} (h : Ws w a n c l) : n ≤ c := h.2.1
theorem Ws.max {w : World} {a : Option Addr} {n c : Nat} {l : List UInt32} (h : Ws w a n c l) : n ≤ 9223372036854775807 := by
  have h1 := h.2.1
  have h2 := h.2.2.1
  unfold maxLen at h2
  omega

/-- Not empty: it begins somewhere, and its cells lie there. -/
theorem Ws.at {w : World} {a : Option Addr} {n c : Nat} {l : List UInt32} (h : Ws w a n c l) (hn : 0 < n) :
    ∃ b o, a = some ⟨b, o, none⟩ ∧ b < w.heap.size ∧ ∀ i, i < n → w.cell? ⟨b, o + i, none⟩ = some (.int .u32 (wt l i)) := by
  obtain ⟨b, o, ha, hc⟩ := h.2.2.2.2 0 hn
  refine ⟨b, o, ha, lt_of_cell hc, fun i hi => ?_⟩
  obtain ⟨b', o', ha', hc'⟩ := h.2.2.2.2 i hi
  rw [ha] at ha'
  simp at ha'
  obtain ⟨rfl, rfl⟩ := ha'
  exact hc'

theorem Ws.below {w w' : World} {a : Option Addr} {n c : Nat} {l : List UInt32} (h : Ws w a n c l) {B : Nat} (hb : Below B w w') (hB : w.heap.size ≤ B) : Ws w' a n c l := by
  refine ⟨h.1, h.2.1, h.2.2.1, h.2.2.2.1, fun i hi => ?_⟩
  obtain ⟨b, o, ha, hc⟩ := h.2.2.2.2 i hi
  refine ⟨b, o, ha, ?_⟩
  rw [hb.cell (p := ⟨b, o + i, none⟩) (by have := lt_of_cell hc; simp at this ⊢; omega)]
  exact hc

theorem Ws.nil (w : World) : Ws w none 0 0 [] := ⟨rfl, Nat.le_refl _, Nat.zero_le _, fun _ => rfl, fun i hi => by omega⟩

/-- Bytes as cells. -/
def ws (l : List UInt32) : List Value := l.map fun x => .int .u32 (x.toNat : Int)

/-- The value v is a slice of the bytes l, in memory of the call's own from block 'base' on. -/
def Owd (w : World) (base : Nat) (v : Value) (l : List UInt32) : Prop := w.ownsRow base 75 1 v l.length (ws l)

theorem ws_length (l : List UInt32) : (ws l).length = l.length := by simp [ws]
theorem ws_get {l : List UInt32} {i : Nat} (h : i < l.length) : (ws l)[i]? = some (.int .u32 (wt l i)) := by
  simp [ws, wt, h, List.getD_eq_getElem?_getD]
theorem Owd.nil (w : World) (base : Nat) : Owd w base (.slice none 0 0) [] := World.ownsRow_nil _ _ _ _

theorem Owd.mono {w : World} {base base' : Nat} {v : Value} {l : List UInt32} (h : Owd w base v l) (hb : base' ≤ base) : Owd w base' v l := by
  obtain ⟨h1, h2⟩ := h
  refine ⟨h1, ?_⟩
  rcases h2 with h2 | ⟨g, cap, cur, hv, hg, r⟩
  · exact Or.inl h2
  · exact Or.inr ⟨g, cap, cur, hv, by omega, r⟩

theorem Owd.below {w w' : World} {base B : Nat} {v : Value} {l : List UInt32} (h : Owd w base v l) (hb : Below B w w') (hB : w.heap.size ≤ B) : Owd w' base v l := by
  obtain ⟨h1, h2⟩ := h
  refine ⟨h1, ?_⟩
  rcases h2 with h2 | ⟨g, cap, cur, hv, hg, hh, r⟩
  · exact Or.inl h2
  · refine Or.inr ⟨g, cap, cur, hv, hg, ?_, r⟩
    have hlt : g < w.heap.size := by
      by_cases e : g < w.heap.size
      · exact e
      · rw [Array.getElem?_eq_none (by omega)] at hh; simp at hh
    rw [hb.block g (by omega)]
    exact hh

theorem Owd.size {w : World} {base : Nat} {v : Value} {l : List UInt32} (h : Owd w base v l) : ∀ k, v.ownBlock = some k → base ≤ k := fun k hk => (World.ownsRow.lt h k hk).1

/-- What is owned is a slice of bytes. -/
theorem Owd.bs {w : World} {base : Nat} {v : Value} {l : List UInt32} (h : Owd w base v l) : ∃ a c, v = .slice a l.length c ∧ Ws w a l.length c l := by
  have h' := h
  obtain ⟨h1, h2⟩ := h
  rcases h2 with ⟨rfl, h0⟩ | ⟨g, cap, cur, rfl, hg, hh, hn, hm, r⟩
  · have e : l = [] := List.length_eq_zero_iff.1 h0
    subst e
    exact ⟨none, 0, rfl, Ws.nil w⟩
  · refine ⟨_, cap, rfl, rfl, hn, hm, by simp, fun i hi => ⟨g, 0, rfl, ?_⟩⟩
    have := World.ownsRow.cellAt h' i (by omega)
    rw [ws_get hi] at this
    simpa using this

theorem Ws.news {w : World} {ad : Addr} {m c : Nat} {l : List UInt32} (h : Ws w (some ad) m c l) (j : Nat) (u : Value) (hj : (ws l)[j]? = some u) : w.cell? (ad.add j) = some u := by
  have hl := h.len
  by_cases hjl : j < l.length
  · rw [ws_get hjl] at hj
    obtain ⟨b, o, ha, hc⟩ := h.2.2.2.2 j (by omega)
    simp at ha
    subst ha
    have e : (Addr.add ⟨b, o, none⟩ j) = ⟨b, o + j, none⟩ := by
      unfold Addr.add
      split
      · subst_vars; rfl
      · rfl
    rw [e, hc]
    exact hj
  · rw [List.getElem?_eq_none (by rw [ws_length]; omega)] at hj
    simp at hj

/-- A store into a row of the call's own. -/
theorem Owd.set {w : World} {base g n c : Nat} {l : List UInt32} (h : Owd w base (.slice (some ⟨g, 0, none⟩) n c) l) (hn : l.length = n) (j : Nat) (x : UInt32) :
    Owd (w.setCell ⟨g, j, none⟩ (.int .u32 (x.toNat : Int))) base (.slice (some ⟨g, 0, none⟩) n c) (l.set j x) := by
  subst hn
  have := (World.ownsRow.stored h j (.int .u32 (x.toNat : Int))).1
  unfold Owd
  rw [List.length_set]
  have e : ws (l.set j x) = (ws l).set j (.int .u32 (x.toNat : Int)) := by simp [ws, List.map_set]
  rw [e]
  exact this

theorem Owd.cell {w : World} {base g n c : Nat} {l : List UInt32} (h : Owd w base (.slice (some ⟨g, 0, none⟩) n c) l) (hn : l.length = n) (j : Nat) (hj : j < n) : ∃ v, w.cell? ⟨g, j, none⟩ = some v := by
  subst hn
  have := World.ownsRow.cellAt h j (by omega)
  rw [ws_get hj] at this
  exact ⟨_, this⟩
theorem Owd.free {w : World} {base g n c : Nat} {l : List UInt32} (h : Owd w base (.slice (some ⟨g, 0, none⟩) n c) l) (hn : l.length = n) (j : Nat) : w.frozen? ⟨g, j, none⟩ = false := by
  subst hn
  exact World.ownsRow.frozenAt h j

/-- A literal of bytes in a new block. -/
theorem Ws.made (w : World) (l : List UInt32) (arr : Array Value) (h : arr.toList = ws l) (hm : l.length ≤ 1000000) : Ws (w.alloc (.cells arr 75)) (some ⟨w.heap.size, 0, none⟩) l.length l.length l := by
  have hz : arr.size = l.length := by rw [← Array.length_toList, h, ws_length]
  have ho : Owd (w.alloc (.cells arr 75)) w.heap.size (.slice (some ⟨w.heap.size, 0, none⟩) l.length l.length) l := by
    unfold Owd
    rw [← h]
    exact World.ownsRow_lit w arr l.length (Nat.le_refl _) (by unfold maxLen; omega) (by omega)
  obtain ⟨a, c, e, hb⟩ := ho.bs
  simp only [Value.slice.injEq] at e
  obtain ⟨rfl, _, rfl⟩ := e
  exact hb

theorem ofNat_toNat_w (z : Int) (h0 : 0 ≤ z) (h1 : z ≤ 4294967295) : ((UInt32.ofNat z.toNat).toNat : Int) = z := by
  rw [UInt32.toNat_ofNat']
  omega

theorem Ws.one (w : World) (z : Int) (h0 : 0 ≤ z) (h1 : z ≤ 4294967295) : Ws (w.alloc (.cells #[.int .u32 z] 75)) (some ⟨w.heap.size, 0, none⟩) 1 1 [UInt32.ofNat z.toNat] :=
  Ws.made w [UInt32.ofNat z.toNat] #[.int .u32 z] (by simp only [ws, List.map, ofNat_toNat_w z h0 h1]) (by simp)

theorem Owd.toBs {w : World} {base : Nat} {a : Option Addr} {m c : Nat} {l : List UInt32} (h : Owd w base (.slice a m c) l) : Ws w a m c l := by
  obtain ⟨a', c', e, hb⟩ := h.bs
  simp only [Value.slice.injEq] at e
  obtain ⟨rfl, rfl, rfl⟩ := e
  exact hb

/-- What a call that hands back bytes in new memory leaves. -/
def GivesW (w : World) (l : List UInt32) (e : Ending) (w' : World) : Prop := ∃ a m c, e = .returned (.slice a m c) ∧ Owd w' w.heap.size (.slice a m c) l ∧ Below w.heap.size w w'

theorem GivesW.mk {w w' : World} {l : List UInt32} {v : Value} (h : Owd w' w.heap.size v l) (hb : Below w.heap.size w w') : GivesW w l (.returned v) w' := by
  obtain ⟨a, c, rfl, _⟩ := h.bs
  exact ⟨a, _, c, rfl, h, hb⟩

theorem Ws.drew {w : World} {a : Option Addr} {n c : Nat} {l : List UInt32} (h : Ws w a n c l) : Ws w.drew a n c l := h

theorem Ws.drewN {w : World} {a : Option Addr} {n c : Nat} {l : List UInt32} (h : Ws w a n c l) (d : Nat) : Ws (w.drewN d) a n c l := h
end Go.Proofs.YtlenmkhmkommcaaGreat

/-
  Plain mathematics: sums of 256 bits on lists of bytes and words of 32 bits, and the sum of abc. No condition; nothing of the program.
-/
namespace Go.Proofs.YtlenmkhmkommcaaGreat
open Go.RowKit

def sKs : List UInt32 := [1116352408, 1899447441, 3049323471, 3921009573, 961987163, 1508970993, 2453635748, 2870763221, 3624381080, 310598401, 607225278, 1426881987, 1925078388, 2162078206, 2614888103, 3248222580, 3835390401, 4022224774, 264347078, 604807628, 770255983, 1249150122, 1555081692, 1996064986, 2554220882, 2821834349, 2952996808, 3210313671, 3336571891, 3584528711, 113926993, 338241895, 666307205, 773529912, 1294757372, 1396182291, 1695183700, 1986661051, 2177026350, 2456956037, 2730485921, 2820302411, 3259730800, 3345764771, 3516065817, 3600352804, 4094571909, 275423344, 430227734, 506948616, 659060556, 883997877, 958139571, 1322822218, 1537002063, 1747873779, 1955562222, 2024104815, 2227730452, 2361852424, 2428436474, 2756734187, 3204031479, 3329325298]
def sHs : List UInt32 := [1779033703, 3144134277, 1013904242, 2773480762, 1359893119, 2600822924, 528734635, 1541459225]

def rot (x n : UInt32) : UInt32 := x >>> n ||| x <<< (32 - n)
def sgA (x : UInt32) : UInt32 := rot x 7 ^^^ rot x 18 ^^^ x >>> 3
def sgB (x : UInt32) : UInt32 := rot x 17 ^^^ rot x 19 ^^^ x >>> 10
def bgA (x : UInt32) : UInt32 := rot x 2 ^^^ rot x 13 ^^^ rot x 22
def bgE (x : UInt32) : UInt32 := rot x 6 ^^^ rot x 11 ^^^ rot x 25
def pck (e f g : UInt32) : UInt32 := (e &&& f) ^^^ ((4294967295 ^^^ e) &&& g)
def mst (a b c : UInt32) : UInt32 := (a &&& b) ^^^ (a &&& c) ^^^ (b &&& c)
def tOne (e f g h k : UInt32) : UInt32 := h + bgE e + pck e f g + k

/-- The eight words behind a round; k is its constant and its word together. -/
def rnd (v : List UInt32) (k : UInt32) : List UInt32 :=
  match v with
  | [a, b, c, d, e, f, g, h] => [tOne e f g h k + (bgA a + mst a b c), a, b, c, d + tOne e f g h k, e, f, g]
  | _ => v

def rnds (h w : List UInt32) : Nat → List UInt32
  | 0 => h
  | n + 1 => rnd (rnds h w n) (sKs.getD n 0 + w.getD n 0)

def wordAt (b : List UInt8) (i : Nat) : UInt32 := UInt32.ofNat (getN ((b.drop (4 * i)).take 4))
def wnext (w : List UInt32) (i : Nat) : UInt32 := w.getD (i - 16) 0 + w.getD (i - 7) 0 + sgA (w.getD (i - 15) 0) + sgB (w.getD (i - 2) 0)

/-- The first words of a block's rounds. -/
def schd (b : List UInt8) : Nat → List UInt32
  | 0 => []
  | n + 1 => if n < 16 then schd b n ++ [wordAt b n] else schd b n ++ [wnext (schd b n) n]

def add8 (h v : List UInt32) : List UInt32 := List.zipWith (· + ·) h v

/-- A sum so far with one more block taken. -/
def tk (h : List UInt32) (b : List UInt8) : List UInt32 := add8 h (rnds h (schd b 64) 64)

def blk (l : List UInt8) (n : Nat) : List UInt8 := (l.drop (64 * n)).take 64
def tks (l : List UInt8) : Nat → List UInt32
  | 0 => sHs
  | n + 1 => tk (tks l n) (blk l n)

def padL (l : List UInt8) : List UInt8 := l ++ [128] ++ List.replicate ((119 - l.length % 64) % 64) 0 ++ putL (8 * l.length) 8
def outL (h : List UInt32) : List UInt8 := h.flatMap fun x => putL x.toNat 4
def sumL (l : List UInt8) : List UInt8 := outL (tks (padL l) ((padL l).length / 64))

end Go.Proofs.YtlenmkhmkommcaaGreat

/-
  Plain mathematics: sums under a key, and keys from keys, on lists of bytes. No condition; nothing of the program.
-/
namespace Go.Proofs.YtlenmkhmkommcaaGreat
open Go.RowKit

def xorB (l : List UInt8) (x : UInt8) : List UInt8 := l.map (· ^^^ x)
/-- A key, or its sum where it is too long. -/
def keyL (key : List UInt8) : List UInt8 := if key.length ≤ 64 then key else sumL key
/-- A key's block. -/
def blkL (key : List UInt8) : List UInt8 := keyL key ++ List.replicate (64 - (keyL key).length) 0
def macL (key text : List UInt8) : List UInt8 := sumL (xorB (blkL key) 92 ++ sumL (xorB (blkL key) 54 ++ text))

/-- The i-th link of a key's chain; none ahead of the first. -/
def chn (key info : List UInt8) : Nat → List UInt8
  | 0 => []
  | i + 1 => macL key (chn key info i ++ info ++ [UInt8.ofNat (i + 1)])
/-- The first links, one behind the other. -/
def outC (key info : List UInt8) : Nat → List UInt8
  | 0 => []
  | i + 1 => outC key info i ++ chn key info (i + 1)
def expL (key info : List UInt8) (n : Nat) : List UInt8 := (outC key info ((n + 31) / 32)).take n

end Go.Proofs.YtlenmkhmkommcaaGreat

/-
  Plain mathematics of layer 12: what a sealer is, and what each call makes of it. No condition; nothing of the program.
-/
namespace Go.Proofs.YtlenmkhmkommcaaGreat
open Go.RowKit

/-- One thing in the book. -/
structure Ent where
  key : List UInt8
  nonce : List UInt8
  beside : List UInt8
  text : List UInt8
  sealed : List UInt8
/-- A key that was made of another one: noise of a number. -/
structure Kid where
  up : List UInt8
  what : List UInt8
  num : Nat
/-- A sealer. -/
structure SeaS where
  ideal : Bool
  book : List Ent
  kids : List Kid
  count : Nat
  reused : Bool
  forged : Bool
def SeaS.new (i : Bool) : SeaS := ⟨i, [], [], 0, false, false⟩
/-- What comes of sealing. -/
def SeaS.made (S : SeaS) (k n b t : List UInt8) : List UInt8 := if S.ideal then noiseL (S.count + 1) (t.length + 16) else sealL (keyF k) n b t
def SeaS.next (S : SeaS) : Nat := if S.ideal then S.count + 1 else S.count
def Ent.at_ (e : Ent) (k n : List UInt8) : Bool := decide (e.key = k) && decide (e.nonce = n)
def Ent.un (e : Ent) (k n b t : List UInt8) : Bool := decide (e.key = k) && decide (e.nonce = n) && (!decide (e.beside = b) || !decide (e.text = t))
def Ent.is (e : Ent) (k n b s : List UInt8) : Bool := decide (e.key = k) && decide (e.nonce = n) && decide (e.beside = b) && decide (e.sealed = s)
def SeaS.other (S : SeaS) (k n b t : List UInt8) : Bool := S.book.any fun e => e.un k n b t
def SeaS.seal (S : SeaS) (k n b t : List UInt8) : SeaS := { S with book := S.book ++ [⟨k, n, b, t, S.made k n b t⟩], count := S.next, reused := S.reused || S.other k n b t }
def SeaS.first (S : SeaS) (k n : List UInt8) : Option Ent := S.book.find? fun e => e.at_ k n
def SeaS.known (S : SeaS) (k n b s : List UInt8) : Option (List UInt8) := (S.book.find? fun e => e.is k n b s).map (·.text)
/-- What opens for real. -/
def opensL (k n b s : List UInt8) : Option (List UInt8) := if 16 ≤ s.length then (if tagL (keyF k) n b (s.take (s.length - 16)) = s.drop (s.length - 16) then some (strL (keyF k) n (s.take (s.length - 16))) else none) else none
def SeaS.opens (S : SeaS) (k n b s : List UInt8) : Option (List UInt8) := if S.ideal then S.known k n b s else opensL k n b s
def SeaS.opened (S : SeaS) (k n b s : List UInt8) : SeaS := { S with forged := S.forged || (!S.ideal && (opensL k n b s).isSome && (S.known k n b s).isNone) }
def Kid.is (c : Kid) (u p : List UInt8) : Bool := decide (c.up = u) && decide (c.what = p)
def SeaS.kid (S : SeaS) (u p : List UInt8) : Option Kid := S.kids.find? fun c => c.is u p
/-- The number of a key's noise. -/
def SeaS.num (S : SeaS) (u p : List UInt8) : Nat := match S.kid u p with | some c => c.num | none => S.count + 1
def SeaS.derive (S : SeaS) (u p : List UInt8) : SeaS := match S.kid u p with | some _ => S | none => { S with count := S.count + 1, kids := S.kids ++ [⟨u, p, S.count + 1⟩] }

/-- What holds of every sealer that New made. -/
structure SeaS.Ok (S : SeaS) : Prop where
  nums : S.ideal = true → ∀ e ∈ S.book, ∃ n, n ≤ S.count ∧ e.sealed = noiseL n (e.text.length + 16)
  one : S.reused = false → ∀ e ∈ S.book, ∀ e' ∈ S.book, e.key = e'.key → e.nonce = e'.nonce → e.beside = e'.beside ∧ e.text = e'.text
  kids : ∀ c ∈ S.kids, c.num ≤ S.count
  apart : ∀ c ∈ S.kids, ∀ c' ∈ S.kids, c.num = c'.num → c = c'
  bound : S.count + S.book.length ≤ 1000000
theorem SeaS.Ok.new (i : Bool) : (SeaS.new i).Ok := ⟨fun _ e h => by simp [SeaS.new] at h, fun _ e h => by simp [SeaS.new] at h, fun c h => by simp [SeaS.new] at h, fun c h => by simp [SeaS.new] at h, by simp [SeaS.new]⟩

theorem Ent.at_iff {e : Ent} {k n : List UInt8} : e.at_ k n = true ↔ e.key = k ∧ e.nonce = n := by simp [Ent.at_]
theorem Ent.is_iff {e : Ent} {k n b s : List UInt8} : e.is k n b s = true ↔ e.key = k ∧ e.nonce = n ∧ e.beside = b ∧ e.sealed = s := by simp [Ent.is, and_assoc]
theorem Ent.un_iff {e : Ent} {k n b t : List UInt8} : e.un k n b t = true ↔ e.key = k ∧ e.nonce = n ∧ ¬ (e.beside = b ∧ e.text = t) := by
  simp only [Ent.un, Bool.and_eq_true, Bool.or_eq_true, Bool.not_eq_true', decide_eq_false_iff_not, decide_eq_true_eq, and_assoc]
  constructor
  · rintro ⟨h1, h2, h3⟩
    exact ⟨h1, h2, fun ⟨a, b⟩ => h3.elim (fun h => h a) (fun h => h b)⟩
  · rintro ⟨h1, h2, h3⟩
    refine ⟨h1, h2, ?_⟩
    by_cases hb : e.beside = b
    · exact Or.inr fun ht => h3 ⟨hb, ht⟩
    · exact Or.inl hb
theorem Kid.is_iff {c : Kid} {u p : List UInt8} : c.is u p = true ↔ c.up = u ∧ c.what = p := by simp [Kid.is]

/-- Something else stands at that place: told by the first thing there. -/
theorem SeaS.Ok.first_tells {S : SeaS} (h : S.Ok) (k n b t : List UInt8) : (S.reused || S.other k n b t) = (S.reused || (match S.first k n with | some e => !decide (e.beside = b ∧ e.text = t) | none => false)) := by
  cases hr : S.reused with
  | true => simp
  | false =>
    simp only [Bool.false_or]
    unfold SeaS.first SeaS.other
    cases hf : S.book.find? (fun e => e.at_ k n) with
    | none =>
      rw [List.any_eq_false]
      intro e he hu
      have := List.find?_eq_none.1 hf e he
      exact this (Ent.at_iff.2 ⟨(Ent.un_iff.1 hu).1, (Ent.un_iff.1 hu).2.1⟩)
    | some e0 =>
      have h0 := List.mem_of_find?_eq_some hf
      have h1 := Ent.at_iff.1 (List.find?_some (p := fun e : Ent => e.at_ k n) hf)
      dsimp only
      by_cases hc : e0.beside = b ∧ e0.text = t
      · rw [decide_eq_true hc, Bool.not_true, List.any_eq_false]
        intro e he hu
        obtain ⟨u1, u2, u3⟩ := Ent.un_iff.1 hu
        have := h.one hr e he e0 h0 (u1.trans h1.1.symm) (u2.trans h1.2.symm)
        exact u3 ⟨this.1.trans hc.1, this.2.trans hc.2⟩
      · rw [decide_eq_false hc, Bool.not_false, List.any_eq_true]
        exact ⟨e0, h0, Ent.un_iff.2 ⟨h1.1, h1.2, hc⟩⟩
/-- Noise that was never made stands in no book. -/
theorem SeaS.Ok.fresh {S : SeaS} (h : S.Ok) (hi : S.ideal = true) (k n b : List UInt8) (m : Nat) : S.known k n b (noiseL (S.count + 1) (m + 16)) = none := by
  unfold SeaS.known
  rw [Option.map_eq_none_iff, List.find?_eq_none]
  intro e he hk
  obtain ⟨_, _, _, hs⟩ := Ent.is_iff.1 hk
  obtain ⟨q, hq, hz⟩ := h.nums hi e he
  have hl : e.text.length + 16 = m + 16 := by
    have := congrArg List.length (hz.symm.trans hs)
    rwa [noiseL_length, noiseL_length] at this
  rw [hz, hl] at hs
  have hb := h.bound
  have := (noise_inj (by omega) (by omega) (by omega)).1 hs
  omega
/-- One thing more in the book. -/
def SeaS.add (S : SeaS) (k n b t s : List UInt8) : SeaS := { S with book := S.book ++ [⟨k, n, b, t, s⟩] }
theorem SeaS.seal_add (S : SeaS) (k n b t : List UInt8) : S.seal k n b t = { ({ S with count := S.next } : SeaS).add k n b t (S.made k n b t) with reused := S.reused || S.other k n b t } := rfl
theorem SeaS.first_add (S : SeaS) (k n b t s k' n' : List UInt8) : (S.add k n b t s).first k' n' = match S.first k' n' with | some e => some e | none => if k = k' ∧ n = n' then some ⟨k, n, b, t, s⟩ else none := by
  unfold SeaS.first SeaS.add
  dsimp only
  rw [List.find?_append]
  cases S.book.find? (fun e => e.at_ k' n') with
  | some e => rfl
  | none =>
    simp only [Option.none_or, List.find?_cons, List.find?_nil]
    by_cases hk : k = k' ∧ n = n'
    · rw [if_pos hk, Ent.at_iff.2 hk]
    · rw [if_neg hk]
      have : Ent.at_ ⟨k, n, b, t, s⟩ k' n' = false := by
        rw [Bool.eq_false_iff]
        exact fun h => hk (Ent.at_iff.1 h)
      rw [this]
theorem SeaS.known_add (S : SeaS) (k n b t s k' n' b' s' : List UInt8) : (S.add k n b t s).known k' n' b' s' = match S.known k' n' b' s' with | some e => some e | none => if k = k' ∧ n = n' ∧ b = b' ∧ s = s' then some t else none := by
  unfold SeaS.known SeaS.add
  dsimp only
  rw [List.find?_append]
  cases S.book.find? (fun e => e.is k' n' b' s') with
  | some e => rfl
  | none =>
    simp only [Option.none_or, List.find?_cons, List.find?_nil, Option.map_none]
    by_cases hk : k = k' ∧ n = n' ∧ b = b' ∧ s = s'
    · rw [if_pos hk, Ent.is_iff.2 hk]
      rfl
    · rw [if_neg hk]
      have : Ent.is ⟨k, n, b, t, s⟩ k' n' b' s' = false := by
        rw [Bool.eq_false_iff]
        exact fun h => hk (Ent.is_iff.1 h)
      rw [this]
      rfl
theorem SeaS.Ok.seal {S : SeaS} (h : S.Ok) (hb : S.count + S.book.length + 2 ≤ 1000000) (k n b t : List UInt8) : (S.seal k n b t).Ok := by
  have hnext : S.count ≤ S.next ∧ S.next ≤ S.count + 1 := by unfold SeaS.next; split <;> omega
  refine ⟨fun hi e he => ?_, fun hr e he e' he' h1 h2 => ?_, fun c hc => Nat.le_trans (h.kids c hc) hnext.1, h.apart, ?_⟩
  · simp only [SeaS.seal, List.mem_append, List.mem_singleton] at he
    have hi' : S.ideal = true := hi
    rcases he with he | rfl
    · obtain ⟨q, hq, hz⟩ := h.nums hi e he
      exact ⟨q, Nat.le_trans hq hnext.1, hz⟩
    · refine ⟨S.count + 1, ?_, ?_⟩
      · show S.count + 1 ≤ S.next
        rw [SeaS.next, if_pos hi']
        exact Nat.le_refl _
      · show S.made k n b t = _
        rw [SeaS.made, if_pos hi']
  · have hr' : S.reused = false ∧ S.other k n b t = false := by simpa [SeaS.seal] using hr
    have ho : ∀ x ∈ S.book, x.key = k → x.nonce = n → x.beside = b ∧ x.text = t := fun x hx a1 a2 => by
      by_cases hc : x.beside = b ∧ x.text = t
      · exact hc
      · exact absurd (Ent.un_iff.2 ⟨a1, a2, hc⟩) (List.any_eq_false.1 hr'.2 x hx)
    simp only [SeaS.seal, List.mem_append, List.mem_singleton] at he he'
    rcases he with he | rfl <;> rcases he' with he' | rfl
    · exact h.one hr'.1 e he e' he' h1 h2
    · exact ho e he h1 h2
    · have := ho e' he' h1.symm h2.symm
      exact ⟨this.1.symm, this.2.symm⟩
    · exact ⟨rfl, rfl⟩
  · have : (S.seal k n b t).book.length = S.book.length + 1 := by simp [SeaS.seal]
    rw [this]
    show S.next + _ ≤ _
    omega
theorem SeaS.Ok.opened {S : SeaS} (h : S.Ok) (k n b s : List UInt8) : (S.opened k n b s).Ok := ⟨h.nums, h.one, h.kids, h.apart, h.bound⟩
theorem SeaS.Ok.derive {S : SeaS} (h : S.Ok) (hb : S.count + S.book.length + 2 ≤ 1000000) (u p : List UInt8) : (S.derive u p).Ok := by
  unfold SeaS.derive
  cases hk : S.kid u p with
  | some c => exact h
  | none =>
    refine ⟨fun hi e he => ?_, h.one, fun c hc => ?_, fun c hc c' hc' he => ?_, ?_⟩
    · obtain ⟨q, hq, hz⟩ := h.nums hi e he
      exact ⟨q, Nat.le_succ_of_le hq, hz⟩
    · simp only [List.mem_append, List.mem_singleton] at hc
      rcases hc with hc | rfl
      · exact Nat.le_succ_of_le (h.kids c hc)
      · exact Nat.le_refl _
    · simp only [List.mem_append, List.mem_singleton] at hc hc'
      rcases hc with hc | rfl <;> rcases hc' with hc' | rfl
      · exact h.apart c hc c' hc' he
      · have := h.kids c hc
        dsimp only at he
        omega
      · have := h.kids c' hc'
        dsimp only at he
        omega
      · rfl
    · dsimp only
      have := h.bound
      omega
theorem opens_seal {k n b t : List UInt8} (hk : k.length = 32) (hn : n.length = 12) : opensL k n b (sealL (keyF k) n b t) = some t := by
  have hK := keyF_length hk
  have hl := sealL_length hK hn b t
  unfold opensL
  rw [hl, if_pos (by omega), Nat.add_sub_cancel, if_pos (of_decide_eq_true (open_seal hK hn rfl)), open_text hK hn rfl]

end Go.Proofs.YtlenmkhmkommcaaGreat

/-
  Maps whose keys are structs of texts, whatever their values are: what a key has ('Mks'), a map made, asked and written. No condition; no statement of the seat is proved here.
-/
namespace Go.Proofs.YtlenmkhmkommcaaGreat
open Go.RowKit
open Go.MapKept (run_setObj_map heap_set modify_keys)

/-- What is asked of keys. -/
structure KeyS {κ : Type} (K : TypeId) (kv : κ → Value) (ok : κ → Prop) : Prop where
  law : WideMaps.KeyLaw Tryz.prog K
  key : ∀ a, ok a → ∃ l, keyOf Tryz.prog K (kv a) = some l
  inj : ∀ a b, kv a = kv b → a = b
/-- Block m is a map: what key 'kv a' has is 'f a'. -/
def Mks {κ : Type} (kv : κ → Value) (ok : κ → Prop) (w : World) (m : Nat) (f : κ → Option Value) : Prop :=
  ∃ es clock, w.heap[m]? = some (.map es clock) ∧ (es.toList.map (·.key)).Nodup ∧ (∀ e ∈ es.toList, ∃ a, ok a ∧ e.key = kv a) ∧ ∀ a v, f a = some v ↔ ∃ e ∈ es.toList, e.key = kv a ∧ e.val = v
/-- Key a has v from now on. -/
def updK {κ : Type} [DecidableEq κ] (f : κ → Option Value) (a : κ) (v : Value) : κ → Option Value := fun b => if b = a then some v else f b

theorem Mks.lt {κ : Type} {kv : κ → Value} {ok : κ → Prop} {w : World} {m : Nat} {f : κ → Option Value} (h : Mks kv ok w m f) : m < w.heap.size := by
  obtain ⟨es, clock, hb, _⟩ := h
  exact (Array.getElem?_eq_some_iff.1 hb).1
theorem Mks.same {κ : Type} {kv : κ → Value} {ok : κ → Prop} {w w' : World} {m : Nat} {f : κ → Option Value} (h : Mks kv ok w m f) (e : w'.heap[m]? = w.heap[m]?) : Mks kv ok w' m f := by
  obtain ⟨es, clock, hb, h1⟩ := h
  exact ⟨es, clock, by rw [e]; exact hb, h1⟩
theorem Mks.new {κ : Type} (kv : κ → Value) (ok : κ → Prop) (w : World) : Mks kv ok (w.alloc (.map #[] 0)) w.heap.size (fun _ => none) := ⟨#[], 0, heap_alloc_new _ _, by simp, by simp, by simp⟩
theorem Mks.notCells {κ : Type} {kv : κ → Value} {ok : κ → Prop} {w : World} {m : Nat} {f : κ → Option Value} (h : Mks kv ok w m f) {g : Nat} {vs : List Value} {t : TypeId} (hb : Blk w g vs t) : g ≠ m := fun e => by
  obtain ⟨es, clock, hm, _⟩ := h
  unfold Blk at hb
  rw [e, hm] at hb
  cases hb
/-- Asked. -/
theorem Mks.look {κ : Type} {kv : κ → Value} {ok : κ → Prop} {w : World} {m : Nat} {f : κ → Option Value} (h : Mks kv ok w m f) {T K E : TypeId} (hK : KeyS K kv ok) (hm : Tryz.prog.underlying T = some (.map K E)) {z : Value} (hz : (zeroValue E).run Tryz.prog w = .ok z w) (a : κ) (ha : ok a) :
    (Instr.lookup T (.map (some m)) (kv a) true).run Tryz.prog w = .ok (.tuple #[(f a).getD z, .bool (f a).isSome]) w := by
  obtain ⟨es, clock, hb, h1, h2, h3⟩ := h
  obtain ⟨l, hl⟩ := hK.key a ha
  have hall : ∀ e ∈ es.toList, ∃ l, keyOf Tryz.prog K e.key = some l := fun e he => by
    obtain ⟨b, hb, hk⟩ := h2 e he
    rw [hk]
    exact hK.key b hb
  have hc := hK.law.check w es.isEmpty hl
  rcases hK.law.find w hl es.toList hall with ⟨g1, g2⟩ | ⟨j, e, g1, g2, g3⟩
  · have hn : f a = none := by
      cases hf : f a with
      | none => rfl
      | some v =>
        obtain ⟨e, he, hk, _⟩ := (h3 a v).1 hf
        exact absurd hk (g2 e he)
    rw [hn]
    simp [Instr.lookup, run_underlying hm, Go.MapKept.run_getObj_map hb, hc, g1, hz, Result.andThen]
  · have hs : f a = some e.val := (h3 a e.val).2 ⟨e, List.mem_of_getElem? g2, g3, rfl⟩
    rw [hs]
    simp [Instr.lookup, run_underlying hm, Go.MapKept.run_getObj_map hb, hc, g1, Result.andThen]
/-- Written. -/
theorem Mks.store {κ : Type} [DecidableEq κ] {kv : κ → Value} {ok : κ → Prop} {w : World} {m : Nat} {f : κ → Option Value} (h : Mks kv ok w m f) {T K E : TypeId} (hK : KeyS K kv ok) (hm : Tryz.prog.underlying T = some (.map K E)) (a : κ) (ha : ok a) (v : Value) :
    ∃ w', (Instr.mapUpdate T (.map (some m)) (kv a) v).run Tryz.prog w = .ok () w' ∧ Mks kv ok w' m (updK f a v) ∧ w.grownBy w' (some m) := by
  obtain ⟨es, clock, hb, h1, h2, h3⟩ := h
  obtain ⟨l, hl⟩ := hK.key a ha
  have hall : ∀ e ∈ es.toList, ∃ l, keyOf Tryz.prog K e.key = some l := fun e he => by
    obtain ⟨b, hb, hk⟩ := h2 e he
    rw [hk]
    exact hK.key b hb
  have hc := hK.law.check w false hl
  have hgrow : ∀ o, w.grownBy { w with heap := w.heap.setIfInBounds m o } (some m) := fun o => ⟨rfl, rfl, rfl, by simp, fun i hi hne => (heap_set hb).2 i (fun e => hne (by rw [e]))⟩
  rcases hK.law.find w hl es.toList hall with ⟨g1, g2⟩ | ⟨j, e, g1, g2, g3⟩
  · refine ⟨_, by simp [Instr.mapUpdate, run_underlying hm, Go.MapKept.run_getObj_map hb, hc, g1, run_setObj_map _ hb, Result.andThen]; rfl, ⟨_, _, (heap_set hb).1, ?_, ?_, ?_⟩, hgrow _⟩
    · rw [Array.toList_push, List.map_append, List.nodup_append]
      refine ⟨h1, by simp, fun x hx y hy => ?_⟩
      obtain ⟨e, he, rfl⟩ := List.mem_map.1 hx
      simp only [List.map_cons, List.map_nil, List.mem_singleton] at hy
      subst hy
      exact g2 e he
    · intro x hx
      simp only [Array.toList_push, List.mem_append, List.mem_singleton] at hx
      rcases hx with hx | rfl
      · exact h2 x hx
      · exact ⟨a, ha, rfl⟩
    · intro b u
      unfold updK
      simp only [Array.toList_push, List.mem_append, List.mem_singleton]
      by_cases hab : b = a
      · subst hab
        rw [if_pos rfl]
        constructor
        · intro hu
          exact ⟨_, Or.inr rfl, rfl, Option.some.inj hu⟩
        · rintro ⟨x, hx | rfl, hk, hv⟩
          · exact absurd hk (g2 x hx)
          · rw [← hv]
      · rw [if_neg hab, h3]
        constructor
        · rintro ⟨x, hx, hk⟩
          exact ⟨x, Or.inl hx, hk⟩
        · rintro ⟨x, hx | rfl, hk⟩
          · exact ⟨x, hx, hk⟩
          · exact absurd (hK.inj _ _ hk.1).symm hab
  · have hj : es[j]? = some e := by simpa using g2
    have hlt : j < es.toList.length := (List.getElem?_eq_some_iff.1 g2).1
    have e1 : (es.modify j fun e => { e with key := kv a, val := v }).toList = es.toList.set j { e with key := kv a, val := v } := by
      apply List.ext_getElem?
      intro i
      rw [Array.getElem?_toList, Array.getElem?_modify, List.getElem?_set]
      by_cases hij : j = i
      · subst hij
        rw [if_pos rfl, if_pos rfl, if_pos hlt, hj]
        rfl
      · rw [if_neg hij, if_neg hij, Array.getElem?_toList]
    have hkeys : (es.modify j fun e => { e with key := kv a, val := v }).toList.map (·.key) = es.toList.map (·.key) := modify_keys _ _ fun e' he' => by
      rw [hj] at he'
      cases he'
      exact g3.symm
    refine ⟨_, by simp [Instr.mapUpdate, run_underlying hm, Go.MapKept.run_getObj_map hb, hc, g1, hj, g3, hK.law.stays w hl, run_setObj_map _ hb, Result.andThen]; rfl, ⟨_, _, (heap_set hb).1, ?_, ?_, ?_⟩, hgrow _⟩
    · rw [hkeys]
      exact h1
    · intro x hx
      have : x.key ∈ es.toList.map (·.key) := by rw [← hkeys]; exact List.mem_map.2 ⟨x, hx, rfl⟩
      obtain ⟨y, hy, he⟩ := List.mem_map.1 this
      rw [← he]
      exact h2 y hy
    · intro b u
      have hge : es.toList[j] = e := (List.getElem?_eq_some_iff.1 g2).2
      have hd : es.toList = es.toList.take j ++ e :: es.toList.drop (j + 1) := by
        rw [← hge, List.getElem_cons_drop hlt, List.take_append_drop]
      rw [e1, List.set_eq_take_append_cons_drop, if_pos hlt]
      rw [hd, List.map_append, List.map_cons, List.nodup_append, List.nodup_cons] at h1
      obtain ⟨_, ⟨n2, _⟩, n1⟩ := h1
      have k1 : ∀ x ∈ es.toList.take j, x.key ≠ kv a := fun x hx hk => n1 x.key (List.mem_map.2 ⟨x, hx, rfl⟩) e.key (by simp) (by rw [hk, g3])
      have k2 : ∀ x ∈ es.toList.drop (j + 1), x.key ≠ kv a := fun x hx hk => n2 (by rw [g3, ← hk]; exact List.mem_map.2 ⟨x, hx, rfl⟩)
      unfold updK
      rw [hd] at h3
      generalize es.toList.take j = X at *
      generalize es.toList.drop (j + 1) = Y at *
      simp only [List.mem_append, List.mem_cons]
      by_cases hab : b = a
      · subst hab
        rw [if_pos rfl]
        constructor
        · intro hu
          exact ⟨_, Or.inr (Or.inl rfl), rfl, Option.some.inj hu⟩
        · rintro ⟨x, hx | rfl | hx, hk, hv⟩
          · exact absurd hk (k1 x hx)
          · rw [← hv]
          · exact absurd hk (k2 x hx)
      · rw [if_neg hab, h3]
        simp only [List.mem_append, List.mem_cons]
        constructor
        · rintro ⟨x, hx | rfl | hx, hk⟩
          · exact ⟨x, Or.inl hx, hk⟩
          · rw [g3] at hk
            exact absurd (hK.inj _ _ hk.1).symm hab
          · exact ⟨x, Or.inr (Or.inr hx), hk⟩
        · rintro ⟨x, hx | rfl | hx, hk⟩
          · exact ⟨x, Or.inl hx, hk⟩
          · exact absurd (hK.inj _ _ hk.1).symm hab
          · exact ⟨x, Or.inr (Or.inr hx), hk⟩

end Go.Proofs.YtlenmkhmkommcaaGreat
