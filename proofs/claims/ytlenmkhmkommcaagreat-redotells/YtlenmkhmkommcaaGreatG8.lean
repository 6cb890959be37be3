/-
  8 texts in one. No statement of the seat is proved here.
-/
import Derived.Test.YtlenmkhmkommcaaGreatG7

/-
  Bytes as numbers: what the model's operations on eight bits are. No condition; nothing of the program.
-/
namespace Go.Proofs.YtlenmkhmkommcaaGreat
open Go.RowKit

theorem xor_u8 (x y : UInt8) : bits .xor .u8 (x.toNat : Int) (y.toNat : Int) = ((x ^^^ y).toNat : Int) := by
  rw [u8_xor_nat _ _ (UInt8.toNat_lt _) (UInt8.toNat_lt _), UInt8.toNat_xor]

theorem Own.bs3 {w : World} {base : Nat} {v : Value} {l : List UInt8} (h : Own w base v l) : ∃ a m c, v = .slice a m c ∧ Bs w a m c l := by
  obtain ⟨a, c, rfl, hb⟩ := h.bs
  exact ⟨a, _, c, rfl, hb⟩
theorem b_lt (x : UInt8) : x.toNat < 256 := UInt8.toNat_lt x
theorem b_or (x y : UInt8) : bits .or .u8 (x.toNat : Int) (y.toNat : Int) = ((x ||| y).toNat : Int) := by
  rw [u8_or_nat _ _ (b_lt x) (b_lt y), UInt8.toNat_or]
theorem bsh_amount (n : Nat) (h : n < 8) : (UInt8.ofNat n).toNat % 8 = n := by rw [UInt8.toNat_ofNat']; omega
theorem b_shr (x : UInt8) (n : Nat) (h : n < 8) : ((x.toNat : Int) / 2 ^ n) = ((x >>> UInt8.ofNat n).toNat : Int) := by
  rw [UInt8.toNat_shiftRight, Nat.shiftRight_eq_div_pow, bsh_amount n h, Int.natCast_ediv, Int.natCast_pow]
  rfl
theorem b_shl (x : UInt8) (n : Nat) (h : n < 8) : ((x.toNat : Int) * 2 ^ n) % 256 = ((x <<< UInt8.ofNat n).toNat : Int) := by
  rw [UInt8.toNat_shiftLeft, Nat.shiftLeft_eq, bsh_amount n h, Int.natCast_emod, Int.natCast_mul, Int.natCast_pow]
  rfl
end Go.Proofs.YtlenmkhmkommcaaGreat

/-
  Two rows of bytes, one by one exclusive-ored: plain. No condition; nothing of the program.
-/
namespace Go.Proofs.YtlenmkhmkommcaaGreat
open Go.RowKit

def xorL (l m : List UInt8) : List UInt8 := List.zipWith (· ^^^ ·) l m

theorem xor_bt {l m : List UInt8} {k : Nat} (h1 : k < l.length) (h2 : k < m.length) : bits .xor .u8 (bt l k) (bt m k) = ((l[k] ^^^ m[k]).toNat : Int) := by
  rw [bt_of_lt h1, bt_of_lt h2, u8_xor_nat _ _ (UInt8.toNat_lt _) (UInt8.toNat_lt _), UInt8.toNat_xor]
theorem xor_eq {l m : List UInt8} {k : Nat} (h1 : k < l.length) (h2 : k < m.length) : ∃ x : UInt8, bits .xor .u8 (bt l k) (bt m k) = (x.toNat : Int) ∧ xorL (l.take (k + 1)) (m.take (k + 1)) = xorL (l.take k) (m.take k) ++ [x] := by
  refine ⟨l[k] ^^^ m[k], xor_bt h1 h2, ?_⟩
  unfold xorL
  rw [take_snoc h1, take_snoc h2, List.zipWith_append (by simp; omega)]
  rfl

end Go.Proofs.YtlenmkhmkommcaaGreat

/-
  The contract of the program's Xor: two rows of bytes, one by one exclusive-ored. Condition: rows of at most 1000000 bytes.
-/
namespace Go.Proofs.YtlenmkhmkommcaaGreat
open Go.RowKit

theorem xor_room {l m : List UInt8} {k q : Nat} (h1 : q ≤ l.length) (h2 : q ≤ m.length) (hk : k ≤ q) : (xorL (l.take k) (m.take k) ++ List.replicate (q - k) 0).length = q := by
  unfold xorL
  simp
  omega
theorem xor_step {l m : List UInt8} {k q : Nat} (h1 : q ≤ l.length) (h2 : q ≤ m.length) (hk : k < q) {x : UInt8} (e : xorL (l.take (k + 1)) (m.take (k + 1)) = xorL (l.take k) (m.take k) ++ [x]) :
    (xorL (l.take k) (m.take k) ++ List.replicate (q - k) 0).set k x = xorL (l.take (k + 1)) (m.take (k + 1)) ++ List.replicate (q - (k + 1)) 0 := by
  have hl : (xorL (l.take k) (m.take k)).length = k := by unfold xorL; simp; omega
  rw [e, List.set_append_right _ _ (by omega), hl]
  obtain ⟨d, rfl⟩ : ∃ d, q = k + 1 + d := ⟨q - (k + 1), by omega⟩
  rw [show k + 1 + d - k = d + 1 from by omega, show k + 1 + d - (k + 1) = d from by omega, List.replicate_succ]
  simp
theorem xor_end {l m : List UInt8} {n n' k : Nat} (h1 : l.length = n) (h2 : m.length = n') (hk : k = min n n') : xorL (l.take k) (m.take k) ++ List.replicate (min n n' - k) 0 = xorL l m := by
  subst hk
  subst h1
  subst h2
  unfold xorL
  rw [Nat.sub_self]
  simp only [List.replicate_zero, List.append_nil]
  rw [← List.take_zipWith, List.take_of_length_le (by simp)]

theorem xor_own {w : World} {base r k q : Nat} {v : Value} {A C : List UInt8} (e : A ++ List.replicate (q - k) 0 = C) (hq : q = r) (h : Own w base v (A ++ List.replicate (r - k) 0)) : Own w base v C := by
  subst hq
  rw [← e]
  exact h
theorem xor_nil {w : World} {base n n' r : Nat} {v : Value} {l m : List UInt8} (H : Hid (l.length = n ∧ m.length = n')) (h : min n n' = 0) (hr : r = 0) (ho : Own w base v (List.replicate r 0)) : Own w base v (xorL l m) := by
  have e : xorL l m = [] := by
    unfold xorL
    apply List.length_eq_zero_iff.1
    rw [List.length_zipWith, H.out.1, H.out.2]
    exact h
  subst hr
  rw [e]
  exact ho

set_option maxHeartbeats 400000 in
theorem oXor (w : World) {a b : Option Addr} {n c n' c' : Nat} {l m : List UInt8} (ha : Bs w a n c l) (hb : Bs w b n' c' m) (hz : n ≤ 1000000) (hz' : n' ≤ 1000000) :
    Calls Tryz.prog 151 #[.slice a n c, .slice b n' c'] w (Gives w (xorL l m)) := by
  by_cases h0 : n = 0 ∨ n' = 0
  · have H : Hid (l.length = n ∧ m.length = n') := ⟨ha.len, hb.len⟩
    clear ha hb
    by_cases hm : n' < n
    · have hmk : min n n' = 0 := by omega
      go_enter Tryz.func151, Tryz.ntmps151
      go_wp2_with (at_make; refine wpList_mkn _ rfl _ _ rfl w.heap.size n' _ rfl rfl rfl (by omega) (Nat.le_refl _) ?_; intro g w1 hg hgl hown hbel)
      refine wp_loop_rounds 1 ?_; rw [rounds_succ]; go_wp2
      go_ret
      have e0 : n' = 0 := by omega
      exact Gives.mk (xor_nil H hmk e0 hown) hbel
    · have hmk : min n n' = 0 := by omega
      go_enter Tryz.func151, Tryz.ntmps151
      go_wp2_with (at_make; refine wpList_mkn _ rfl _ _ rfl w.heap.size n _ rfl rfl rfl (by omega) (Nat.le_refl _) ?_; intro g w1 hg hgl hown hbel)
      refine wp_loop_rounds 1 ?_; rw [rounds_succ]; go_wp2
      go_ret
      have e0 : n = 0 := by omega
      exact Gives.mk (xor_nil H hmk e0 hown) hbel
  · obtain ⟨x, o, rfl, hx, hc⟩ := ha.at (by omega)
    obtain ⟨y, q, rfl, hy, hd⟩ := hb.at (by omega)
    have H : Hid (l.length = n ∧ m.length = n') := ⟨ha.len, hb.len⟩
    clear ha hb
    by_cases hm : n' < n
    · have hmk : min n n' = n' := by omega
      go_enter Tryz.func151, Tryz.ntmps151
      go_wp2_with (at_make; refine wpList_mkn _ rfl _ _ rfl w.heap.size n' _ rfl rfl rfl (by omega) (Nat.le_refl _) ?_; intro g w1 hg hgl hown hbel)
      go_loopw [15] (fun i wr => ∃ k : Nat, k ≤ n' ∧ i = .int .i64 k ∧ Own wr w.heap.size (.slice (some ⟨g, 0, none⟩) n' n') (xorL (l.take k) (m.take k) ++ List.replicate (n' - k) 0) ∧ Below w.heap.size w wr) (fun i _ => n' - (intOf i).toNat)
      case atStart => exact ⟨0, Nat.zero_le _, rfl, by simpa [xorL] using hown, hbel⟩
      case round =>
        obtain ⟨k, hk, rfl, ho, hb⟩ := hrel
        clear hown hbel
        by_cases hlt : k < n'
        · have c1 : wr.cell? ⟨x, o + k, none⟩ = some (.int .u8 (bt l k)) := by rw [hb.cell (p := ⟨x, o + k, none⟩) hx]; exact hc k (by omega)
          have c2 : wr.cell? ⟨y, q + k, none⟩ = some (.int .u8 (bt m k)) := by rw [hb.cell (p := ⟨y, q + k, none⟩) hy]; exact hd k (by omega)
          have hlen := xor_room (l := l) (m := m) (k := k) (q := n') (by rw [H.out.1]; omega) (by rw [H.out.2]; omega) (by omega)
          obtain ⟨v0, c3⟩ := ho.cell hlen k (by omega)
          have hfr := ho.free hlen k
          obtain ⟨z, hz1, hz2⟩ := xor_eq (l := l) (m := m) (k := k) (by rw [H.out.1]; omega) (by rw [H.out.2]; omega)
          have ho2 := ho.set hlen k z
          have hb2 := hb.setCell (p := ⟨g, k, none⟩) hg (.int .u8 (z.toNat : Int))
          rw [xor_step (by rw [H.out.1]; omega) (by rw [H.out.2]; omega) hlt hz2, ← hz1] at ho2
          rw [← hz1] at hb2
          have HO : Hid (Own (wr.setCell ⟨g, k, none⟩ (.int .u8 (bits .xor .u8 (bt l k) (bt m k)))) w.heap.size (.slice (some ⟨g, 0, none⟩) n' n') (xorL (l.take (k + 1)) (m.take (k + 1)) ++ List.replicate (n' - (k + 1)) 0)) := ho2
          have HB : Hid (Below w.heap.size w (wr.setCell ⟨g, k, none⟩ (.int .u8 (bits .xor .u8 (bt l k) (bt m k))))) := hb2
          have k1 : (k : Int) < n := by omega
          have k2 : (k : Int) < n' := by omega
          clear ho2 hb2 hlen ho hb hc hd hz1 hz2
          go_wp2
          go_region
          all_goals go_wp2
          all_goals go_roundw
          case rel => exact ⟨k + 1, by omega, by go_num, HO.out, HB.out.drew⟩
          case measure => simp [intOf]; omega
        · go_wp2
          go_ret
          exact Gives.mk (xor_own (xor_end H.out.1 H.out.2 (by omega)) hmk ho) hb
    · have hmk : min n n' = n := by omega
      go_enter Tryz.func151, Tryz.ntmps151
      go_wp2_with (at_make; refine wpList_mkn _ rfl _ _ rfl w.heap.size n _ rfl rfl rfl (by omega) (Nat.le_refl _) ?_; intro g w1 hg hgl hown hbel)
      go_loopw [15] (fun i wr => ∃ k : Nat, k ≤ n ∧ i = .int .i64 k ∧ Own wr w.heap.size (.slice (some ⟨g, 0, none⟩) n n) (xorL (l.take k) (m.take k) ++ List.replicate (n - k) 0) ∧ Below w.heap.size w wr) (fun i _ => n - (intOf i).toNat)
      case atStart => exact ⟨0, Nat.zero_le _, rfl, by simpa [xorL] using hown, hbel⟩
      case round =>
        obtain ⟨k, hk, rfl, ho, hb⟩ := hrel
        clear hown hbel
        by_cases hlt : k < n
        · have c1 : wr.cell? ⟨x, o + k, none⟩ = some (.int .u8 (bt l k)) := by rw [hb.cell (p := ⟨x, o + k, none⟩) hx]; exact hc k (by omega)
          have c2 : wr.cell? ⟨y, q + k, none⟩ = some (.int .u8 (bt m k)) := by rw [hb.cell (p := ⟨y, q + k, none⟩) hy]; exact hd k (by omega)
          have hlen := xor_room (l := l) (m := m) (k := k) (q := n) (by rw [H.out.1]; omega) (by rw [H.out.2]; omega) (by omega)
          obtain ⟨v0, c3⟩ := ho.cell hlen k (by omega)
          have hfr := ho.free hlen k
          obtain ⟨z, hz1, hz2⟩ := xor_eq (l := l) (m := m) (k := k) (by rw [H.out.1]; omega) (by rw [H.out.2]; omega)
          have ho2 := ho.set hlen k z
          have hb2 := hb.setCell (p := ⟨g, k, none⟩) hg (.int .u8 (z.toNat : Int))
          rw [xor_step (by rw [H.out.1]; omega) (by rw [H.out.2]; omega) hlt hz2, ← hz1] at ho2
          rw [← hz1] at hb2
          have HO : Hid (Own (wr.setCell ⟨g, k, none⟩ (.int .u8 (bits .xor .u8 (bt l k) (bt m k)))) w.heap.size (.slice (some ⟨g, 0, none⟩) n n) (xorL (l.take (k + 1)) (m.take (k + 1)) ++ List.replicate (n - (k + 1)) 0)) := ho2
          have HB : Hid (Below w.heap.size w (wr.setCell ⟨g, k, none⟩ (.int .u8 (bits .xor .u8 (bt l k) (bt m k))))) := hb2
          have k1 : (k : Int) < n := by omega
          have k2 : (k : Int) < n' := by omega
          clear ho2 hb2 hlen ho hb hc hd hz1 hz2
          go_wp2
          go_region
          all_goals go_wp2
          all_goals go_roundw
          case rel => exact ⟨k + 1, by omega, by go_num, HO.out, HB.out.drew⟩
          case measure => simp [intOf]; omega
        · go_wp2
          go_ret
          exact Gives.mk (xor_own (xor_end H.out.1 H.out.2 (by omega)) hmk ho) hb


end Go.Proofs.YtlenmkhmkommcaaGreat

/-
  Plain mathematics of layer 4: bytes that are doubled, multiplied, inverted, the box by the powers of three and by its definition. No condition; nothing of the program.
-/
namespace Go.Proofs.YtlenmkhmkommcaaGreat
open Go.RowKit

/-- A byte times two. -/
def dbl (c : UInt8) : UInt8 := if c >>> 7 = 1 then (c <<< 1) ^^^ 27 else c <<< 1

/-- Two bytes multiplied: what is gathered, and the first one doubled, behind so many bits. -/
def tmsA (a b : UInt8) : Nat → UInt8
  | 0 => 0
  | i + 1 => if (b >>> UInt8.ofNat i) &&& 1 = 1 then tmsA a b i ^^^ (dblN a i) else tmsA a b i
where dblN (a : UInt8) : Nat → UInt8
  | 0 => a
  | i + 1 => dbl (dblN a i)
def tms (a b : UInt8) : UInt8 := tmsA a b 8

/-- The first byte from i on, of so many, that times c is 1; else 0. -/
def srch (c : UInt8) : Nat → Nat → UInt8
  | 0, _ => 0
  | n + 1, i => if tms c (UInt8.ofNat i) = 1 then UInt8.ofNat i else srch c n (i + 1)
def inv (c : UInt8) : UInt8 := srch c 255 1

/-- A bit of the box. -/
def bxbit (x : UInt8) (i : Nat) : UInt8 := x >>> UInt8.ofNat i ^^^ x >>> UInt8.ofNat ((i + 4) % 8) ^^^ x >>> UInt8.ofNat ((i + 5) % 8) ^^^ x >>> UInt8.ofNat ((i + 6) % 8) ^^^ x >>> UInt8.ofNat ((i + 7) % 8) ^^^ 99 >>> UInt8.ofNat i
def bxs (x : UInt8) : Nat → UInt8
  | 0 => 0
  | i + 1 => bxs x i ||| ((bxbit x i &&& 1) <<< UInt8.ofNat i)
/-- The box, by its definition. -/
def box (c : UInt8) : UInt8 := bxs (inv c) 8

/-- The powers of three. -/
def p3 : Nat → UInt8
  | 0 => 1
  | i + 1 => p3 i ^^^ dbl (p3 i)
/-- The inverses, behind so many powers. -/
def p3s : List UInt8 := (List.range 255).map p3
def invS : Nat → List UInt8
  | 0 => List.replicate 256 0
  | i + 1 => (invS i).set (p3s.getD i 0).toNat (p3s.getD ((255 - i) % 255) 0)
def rotl (x : UInt8) (n : Nat) : UInt8 := x <<< UInt8.ofNat n ||| x >>> UInt8.ofNat (8 - n)
def bentS (x : UInt8) : Nat → UInt8
  | 0 => x ^^^ 99
  | i + 1 => bentS x i ^^^ rotl x (i + 1)
def bent (x : UInt8) : UInt8 := bentS x 4

/-- A byte of the tables. -/
def boxT : List UInt8 := (List.range 256).map fun c => box (UInt8.ofNat c)
def twT : List UInt8 := (List.range 256).map fun c => dbl (UInt8.ofNat c)
def tabT : List UInt8 := boxT ++ twT
theorem boxT_length : boxT.length = 256 := by simp [boxT]
theorem twT_length : twT.length = 256 := by simp [twT]
theorem tabT_length : tabT.length = 512 := by simp [tabT, boxT, twT]

theorem tab_box (x : UInt8) : bt tabT x.toNat = ((box x).toNat : Int) := by
  have h := UInt8.toNat_lt x
  unfold bt tabT boxT
  rw [List.getD_eq_getElem?_getD, List.getElem?_append_left (by simp; omega)]
  simp [h]
theorem tab_tw (x : UInt8) : bt tabT (256 + x.toNat) = ((dbl x).toNat : Int) := by
  have h := UInt8.toNat_lt x
  unfold bt tabT
  rw [List.getD_eq_getElem?_getD, List.getElem?_append_right (by rw [boxT_length]; omega), boxT_length, Nat.add_sub_cancel_left]
  unfold twT
  simp [h]
end Go.Proofs.YtlenmkhmkommcaaGreat

/-
  Rows of bytes that are filled one by one, as cells. No condition; nothing of the program.
-/
namespace Go.Proofs.YtlenmkhmkommcaaGreat
open Go.RowKit

/-- The first k bytes of L, noughts behind, n in all. -/
def fill (L : List UInt8) (n k : Nat) : List UInt8 := L.take k ++ List.replicate (n - k) 0
theorem fill_length {L : List UInt8} {n k : Nat} (hL : L.length = n) (hk : k ≤ n) : (fill L n k).length = n := by simp [fill]; omega
theorem fill_set {L : List UInt8} {n k : Nat} (hL : L.length = n) (hk : k < n) : (fill L n k).set k (L.getD k 0) = fill L n (k + 1) := by
  have hl : (L.take k).length = k := by simp; omega
  unfold fill
  rw [List.set_append_right _ _ (by omega), hl, Nat.sub_self, take_snoc (by omega), List.append_assoc]
  congr 1
  rw [show n - k = (n - (k + 1)) + 1 from by omega, List.replicate_succ, List.set_cons_zero, List.getD_eq_getElem?_getD, List.getElem?_eq_getElem (by omega)]
  rfl
theorem fill_end {L : List UInt8} {n : Nat} (hL : L.length = n) : fill L n n = L := by
  simp [fill, ← hL]
theorem fill_zero (L : List UInt8) (n : Nat) : fill L n 0 = List.replicate n 0 := by simp [fill]
theorem cs_set (l : List UInt8) (k : Nat) (x : UInt8) : (cs l).set k (.int .u8 (x.toNat : Int)) = cs (l.set k x) := by simp [cs, List.map_set]
theorem cs_at {l : List UInt8} {k : Nat} (h : k < l.length) : (cs l)[k]? = some (.int .u8 ((l.getD k 0).toNat : Int)) := cs_get h
theorem Blk.at8 {w : World} {g : Nat} {l : List UInt8} {t : TypeId} (h : Blk w g (cs l) t) {k : Nat} (hk : k < l.length) : w.cell? ⟨g, k, none⟩ = some (.int .u8 ((l.getD k 0).toNat : Int)) := by
  rw [h.cell, cs_at hk]
theorem Blk.set8 {w : World} {g : Nat} {l : List UInt8} {t : TypeId} (h : Blk w g (cs l) t) (k : Nat) (x : UInt8) : Blk (w.setCell ⟨g, k, none⟩ (.int .u8 (x.toNat : Int))) g (cs (l.set k x)) t := by
  have := h.setC k (.int .u8 (x.toNat : Int))
  rw [cs_set] at this
  exact this

end Go.Proofs.YtlenmkhmkommcaaGreat

/-
  Plain mathematics of blocks: rows that are written over one by one; shifted, mixed. No condition; nothing of the program.
-/
namespace Go.Proofs.YtlenmkhmkommcaaGreat
open Go.RowKit

/-- The first k bytes of L, those of a behind. -/
def over (L a : List UInt8) (k : Nat) : List UInt8 := L.take k ++ a.drop k
theorem over_length {L a : List UInt8} (h : L.length = a.length) (k : Nat) : (over L a k).length = a.length := by simp [over]; omega
theorem over_at {L a : List UInt8} (h : L.length = a.length) {k j : Nat} (hk : k ≤ a.length) (hj : k ≤ j) : (over L a k).getD j 0 = a.getD j 0 := by
  have hl : (L.take k).length = k := by simp; omega
  unfold over
  rw [List.getD_eq_getElem?_getD, List.getElem?_append_right (by omega), hl, List.getElem?_drop, List.getD_eq_getElem?_getD, show k + (j - k) = j from by omega]
theorem over_set {L a : List UInt8} (h : L.length = a.length) {k : Nat} (hk : k < a.length) : (over L a k).set k (L.getD k 0) = over L a (k + 1) := by
  have hl : (L.take k).length = k := by simp; omega
  unfold over
  rw [List.set_append_right _ _ (by omega), hl, Nat.sub_self, take_snoc (by omega), List.append_assoc, List.drop_eq_getElem_cons hk, List.set_cons_zero, List.getD_eq_getElem?_getD, List.getElem?_eq_getElem (by omega)]
  rfl
theorem over_end {L a : List UInt8} (h : L.length = a.length) : over L a a.length = L := by
  simp [over, ← h]
theorem over_zero (L a : List UInt8) : over L a 0 = a := by simp [over]

theorem xorL_length {a b : List UInt8} (h : a.length = b.length) : (xorL a b).length = a.length := by simp [xorL]; omega
theorem xorL_at {a b : List UInt8} {k : Nat} (ha : k < a.length) (hb : k < b.length) : (xorL a b).getD k 0 = a.getD k 0 ^^^ b.getD k 0 := by
  unfold xorL
  rw [List.getD_eq_getElem?_getD, List.getElem?_zipWith, List.getElem?_eq_getElem ha, List.getElem?_eq_getElem hb, List.getD_eq_getElem?_getD, List.getD_eq_getElem?_getD, List.getElem?_eq_getElem ha, List.getElem?_eq_getElem hb]
  rfl

theorem map16_at (f : Nat → UInt8) {k : Nat} (hk : k < 16) : ((List.range 16).map f).getD k 0 = f k := by
  simp [List.getD_eq_getElem?_getD, hk]
theorem map16_length (f : Nat → UInt8) : ((List.range 16).map f).length = 16 := by simp

/-- A block's bytes through the box, each one from as many columns on as it is down its own. -/
def shf (b : List UInt8) : List UInt8 := (List.range 16).map fun i => box (b.getD ((i + i % 4 * 4) % 16) 0)
/-- A byte of a mixed column. -/
def mixAt (b : List UInt8) (i : Nat) : UInt8 :=
  dbl (b.getD (i / 4 * 4 + i % 4) 0 ^^^ b.getD (i / 4 * 4 + (i + 1) % 4) 0) ^^^ b.getD (i / 4 * 4 + (i + 1) % 4) 0 ^^^ b.getD (i / 4 * 4 + (i + 2) % 4) 0 ^^^ b.getD (i / 4 * 4 + (i + 3) % 4) 0
def mixL (b : List UInt8) : List UInt8 := (List.range 16).map (mixAt b)
theorem shf_length (b : List UInt8) : (shf b).length = 16 := map16_length _
theorem mixL_length (b : List UInt8) : (mixL b).length = 16 := map16_length _
theorem shf_at (b : List UInt8) {k : Nat} (hk : k < 16) : (shf b).getD k 0 = box (b.getD ((k + k % 4 * 4) % 16) 0) := map16_at _ hk
theorem mixL_at (b : List UInt8) {k : Nat} (hk : k < 16) : (mixL b).getD k 0 = mixAt b k := map16_at _ hk

theorem mix0 (b : List UInt8) (c : Nat) : mixAt b (4 * c) = dbl (b.getD (4 * c) 0 ^^^ b.getD (4 * c + 1) 0) ^^^ b.getD (4 * c + 1) 0 ^^^ b.getD (4 * c + 2) 0 ^^^ b.getD (4 * c + 3) 0 := by
  unfold mixAt
  rw [show 4 * c / 4 * 4 = 4 * c from by omega, show 4 * c % 4 = 0 from by omega, show (4 * c + 1) % 4 = 1 from by omega, show (4 * c + 2) % 4 = 2 from by omega, show (4 * c + 3) % 4 = 3 from by omega]
  rfl
theorem mix1 (b : List UInt8) (c : Nat) : mixAt b (4 * c + 1) = dbl (b.getD (4 * c + 1) 0 ^^^ b.getD (4 * c + 2) 0) ^^^ b.getD (4 * c + 2) 0 ^^^ b.getD (4 * c + 3) 0 ^^^ b.getD (4 * c) 0 := by
  unfold mixAt
  rw [show (4 * c + 1) / 4 * 4 = 4 * c from by omega, show (4 * c + 1) % 4 = 1 from by omega, show (4 * c + 1 + 1) % 4 = 2 from by omega, show (4 * c + 1 + 2) % 4 = 3 from by omega, show (4 * c + 1 + 3) % 4 = 0 from by omega]
  rfl
theorem mix2 (b : List UInt8) (c : Nat) : mixAt b (4 * c + 2) = dbl (b.getD (4 * c + 2) 0 ^^^ b.getD (4 * c + 3) 0) ^^^ b.getD (4 * c + 3) 0 ^^^ b.getD (4 * c) 0 ^^^ b.getD (4 * c + 1) 0 := by
  unfold mixAt
  rw [show (4 * c + 2) / 4 * 4 = 4 * c from by omega, show (4 * c + 2) % 4 = 2 from by omega, show (4 * c + 2 + 1) % 4 = 3 from by omega, show (4 * c + 2 + 2) % 4 = 0 from by omega, show (4 * c + 2 + 3) % 4 = 1 from by omega]
  rfl
theorem mix3 (b : List UInt8) (c : Nat) : mixAt b (4 * c + 3) = dbl (b.getD (4 * c + 3) 0 ^^^ b.getD (4 * c) 0) ^^^ b.getD (4 * c) 0 ^^^ b.getD (4 * c + 1) 0 ^^^ b.getD (4 * c + 2) 0 := by
  unfold mixAt
  rw [show (4 * c + 3) / 4 * 4 = 4 * c from by omega, show (4 * c + 3) % 4 = 3 from by omega, show (4 * c + 3 + 1) % 4 = 0 from by omega, show (4 * c + 3 + 2) % 4 = 1 from by omega, show (4 * c + 3 + 3) % 4 = 2 from by omega]
  rfl

end Go.Proofs.YtlenmkhmkommcaaGreat

/-
  Arrays of 16 bytes: their size, what is cut out of them. No condition; no statement of the seat is proved here.
-/
namespace Go.Proofs.YtlenmkhmkommcaaGreat
open Go.RowKit

theorem sizeK : (Tryz.prog.info? 204).map (·.size) = some 16 := by kernel_rfl
abbrev z16 : Array Value := #[.int .u8 0, .int .u8 0, .int .u8 0, .int .u8 0, .int .u8 0, .int .u8 0, .int .u8 0, .int .u8 0, .int .u8 0, .int .u8 0, .int .u8 0, .int .u8 0, .int .u8 0, .int .u8 0, .int .u8 0, .int .u8 0]
theorem z16_eq : z16.toList = cs (List.replicate 16 0) := rfl
theorem lenK : Tryz.prog.arrayLen 204 = 16 := by kernel_rfl
theorem undK : Tryz.prog.underlying 204 = some (.array (Tryz.prog.arrayLen 204) (Tryz.prog.elem 204)) := by kernel_rfl
theorem elK (w : World) : Sem.run Tryz.prog (sizeOf (Tryz.prog.elem 204)) w = .ok 1 w := by kernel_rfl
theorem allK (g o : Nat) (w : World) : Sem.run Tryz.prog (Instr.sliceAt 204 (.pointer (some ⟨g, o, none⟩)) none none none) w = .ok (.slice (some ⟨g, o, none⟩) 16 16) w := by
  rw [run_sliceAt_array_all w 204 _ undK, elK]
  simp only [Result.andThen, slicedAt, lenK]
  rfl
theorem Bs.of_range {w : World} {g o : Nat} {l : List UInt8} (h : w.rangeAt g o (cs l)) {c : Nat} (hc : l.length ≤ c) (hm : c ≤ 1000000) : Bs w (some ⟨g, o, none⟩) l.length c l :=
  ⟨rfl, hc, by unfold maxLen; omega, by simp, fun i hi => ⟨g, o, rfl, h i _ (cs_get hi)⟩⟩
/-- The first eight, and those behind. -/
theorem loK (g : Nat) (w : World) : Sem.run Tryz.prog (Instr.sliceAt 204 (.pointer (some ⟨g, 0, none⟩)) none (some (.int .i64 8)) none) w = .ok (.slice (some ⟨g, 0, none⟩) 8 16) w := by
  rw [run_sliceAt_array_h w 204 _ undK .i64 _ (by omega) (by rw [lenK]; omega), elK]
  simp only [Result.andThen, slicedAt, lenK]
  rfl
theorem hiK (g : Nat) (w : World) : Sem.run Tryz.prog (Instr.sliceAt 204 (.pointer (some ⟨g, 0, none⟩)) (some (.int .i64 8)) none none) w = .ok (.slice (some ⟨g, 8, none⟩) 8 8) w := by
  rw [run_sliceAt_array_l w 204 _ undK .i64 _ (by omega) (by rw [lenK]; omega), elK]
  simp only [Result.andThen, slicedAt, lenK]
  rfl

end Go.Proofs.YtlenmkhmkommcaaGreat

/-
  The contracts of 'doubled', 'RotateLeft8' and 'bent'. No condition but that bytes are turned by 1 to 7.
-/
namespace Go.Proofs.YtlenmkhmkommcaaGreat
open Go.RowKit

theorem b_top (c : UInt8) : (c.toNat : Int) / (128 : Int) = ((c >>> 7).toNat : Int) := b_shr c 7 (by omega)
theorem b_two (c : UInt8) : (c.toNat : Int) * (2 : Int) % (256 : Int) = ((c <<< 1).toNat : Int) := b_shl c 1 (by omega)
theorem dbl_hi {c : UInt8} (h : (c.toNat : Int) / 128 = 1) : bits .xor .u8 ((c.toNat : Int) * 2 % 256) 27 = ((dbl c).toNat : Int) := by
  rw [b_top] at h
  have h1 : c >>> 7 = 1 := UInt8.toNat_inj.1 (by have : (1 : UInt8).toNat = 1 := rfl; omega)
  unfold dbl
  rw [if_pos h1, b_two]
  exact xor_u8 _ 27
theorem dbl_lo {c : UInt8} (h : ¬ (c.toNat : Int) / 128 = 1) : (c.toNat : Int) * 2 % 256 = ((dbl c).toNat : Int) := by
  rw [b_top] at h
  have h1 : ¬ c >>> 7 = 1 := by intro e; rw [e] at h; exact h rfl
  unfold dbl
  rw [if_neg h1, b_two]

theorem oDoubled (w : World) (c : UInt8) :
    Calls Tryz.prog 71 #[.int .u8 (c.toNat : Int)] w fun e w' => e = .returned (.int .u8 ((dbl c).toNat : Int)) ∧ w = w' := by
  by_cases h : (c.toNat : Int) / 128 = 1
  · have H : Hid (bits .xor .u8 ((c.toNat : Int) * 2 % 256) 27 = ((dbl c).toNat : Int)) := dbl_hi h
    go_enter Tryz.func71, Tryz.ntmps71
    go_wp2
    go_ret
    exact ⟨ret_int H.out, rfl⟩
  · have H : Hid ((c.toNat : Int) * 2 % 256 = ((dbl c).toNat : Int)) := dbl_lo h
    have h' : ((c.toNat : Int) / 128 == 1) = false := by simpa using h
    go_enter Tryz.func71, Tryz.ntmps71
    go_wp2
    go_ret
    exact ⟨ret_int H.out, rfl⟩

theorem and7 (n : Nat) (h2 : n ≤ 7) : bits .and .u64 (n : Int) 7 = (n : Int) := by
  have : ∀ n : Fin 8, bits .and .u64 (n.val : Int) 7 = (n.val : Int) := by decide +kernel
  exact this ⟨n, by omega⟩
theorem rot_b (x : UInt8) (n : Nat) (h1 : 1 ≤ n) (h2 : n ≤ 7) : bits .or .u8 ((x.toNat : Int) * 2 ^ n % 256) ((x.toNat : Int) / 2 ^ (8 - n)) = ((rotl x n).toNat : Int) := by
  rw [b_shl x n (by omega), b_shr x (8 - n) (by omega), b_or]
  rfl

theorem oRotl8 (w : World) (x : UInt8) (n : Nat) (h1 : 1 ≤ n) (h2 : n ≤ 7) :
    Calls Tryz.prog 101 #[.int .u8 (x.toNat : Int), .int .i64 (n : Int)] w fun e w' => e = .returned (.int .u8 ((rotl x n).toNat : Int)) ∧ w = w' := by
  have h3 : 1 ≤ (n : Int) := by omega
  have h4 : (n : Int) ≤ 7 := by omega
  have h5 : (0 : Int) ≤ 8 - n := by omega
  have h6 := and7 n h2
  have H := rot_b x n h1 h2
  have HH : Hid _ := H
  clear H
  go_enter Tryz.func101, Tryz.ntmps101
  go_wp2
  go_ret
  exact ⟨ret_int HH.out, rfl⟩

theorem bent_step (x : UInt8) (k : Nat) : bits .xor .u8 ((bentS x k).toNat : Int) ((rotl x (k + 1)).toNat : Int) = ((bentS x (k + 1)).toNat : Int) := by
  rw [xor_u8]
  rfl

theorem oBent (w : World) (x : UInt8) :
    Calls Tryz.prog 70 #[.int .u8 (x.toNat : Int)] w fun e w' => e = .returned (.int .u8 ((bent x).toNat : Int)) ∧ w = w' := by
  have H0 : Hid (bits .xor .u8 (x.toNat : Int) 99 = ((bentS x 0).toNat : Int)) := xor_u8 x 99
  go_enter Tryz.func70, Tryz.ntmps70
  go_wp2_with fail
  go_loop [3, 4] (fun o i => ∃ k : Nat, k ≤ 4 ∧ i = .int .i64 ((k : Int) + 1) ∧ o = .int .u8 ((bentS x k).toNat : Int)) (fun _ i => 5 - (intOf i).toNat)
  case atStart => exact ⟨0, by omega, rfl, by rw [H0.out]⟩
  case round =>
    obtain ⟨k, hk, rfl, rfl⟩ := hrel
    by_cases hlt : k < 4
    · have CR : Hid (Calls Tryz.prog 101 #[.int .u8 (x.toNat : Int), .int .i64 ((k : Int) + 1)] w fun e w' => e = .returned (.int .u8 ((rotl x (k + 1)).toNat : Int)) ∧ w = w') := by
        have := oRotl8 w x (k + 1) (by omega) (by omega)
        rw [show ((k + 1 : Nat) : Int) = (k : Int) + 1 from by omega] at this
        exact this
      have HS : Hid (_ = _) := bent_step x k
      have h1 : (k : Int) + 1 ≤ 4 := by omega
      clear H0
      go_wp2_with (go_at_call 101; refine CR.out.mono ?_; rintro e w1 ⟨rfl, rfl⟩)
      go_round
      case rel => exact ⟨k + 1, by omega, by go_num, by rw [HS.out]⟩
      case measure => simp [intOf]; omega
    · obtain rfl : k = 4 := by omega
      go_wp2
      go_ret
      exact ⟨rfl, rfl⟩

end Go.Proofs.YtlenmkhmkommcaaGreat
