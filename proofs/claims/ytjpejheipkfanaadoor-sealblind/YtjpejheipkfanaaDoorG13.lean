/-
  8 texts in one. No statement of the seat is proved here.
-/
import Derived.Test.YtjpejheipkfanaaDoorG12
import Derived.Deep.RegionHeld3
/-
  Unlike blocks stay unlike, in plain lists: each step of a block is one-to-one. No condition but the lengths; nothing of the program.
-/
namespace Go.Proofs.YtjpejheipkfanaaDoor
open Go.RowKit

/-- The box of all bytes, and what undoes it. -/
def boxLit : List UInt8 := [99, 124, 119, 123, 242, 107, 111, 197, 48, 1, 103, 43, 254, 215, 171, 118, 202, 130, 201, 125, 250, 89, 71, 240, 173, 212, 162, 175, 156, 164, 114, 192,
  183, 253, 147, 38, 54, 63, 247, 204, 52, 165, 229, 241, 113, 216, 49, 21, 4, 199, 35, 195, 24, 150, 5, 154, 7, 18, 128, 226, 235, 39, 178, 117,
  9, 131, 44, 26, 27, 110, 90, 160, 82, 59, 214, 179, 41, 227, 47, 132, 83, 209, 0, 237, 32, 252, 177, 91, 106, 203, 190, 57, 74, 76, 88, 207,
  208, 239, 170, 251, 67, 77, 51, 133, 69, 249, 2, 127, 80, 60, 159, 168, 81, 163, 64, 143, 146, 157, 56, 245, 188, 182, 218, 33, 16, 255, 243, 210,
  205, 12, 19, 236, 95, 151, 68, 23, 196, 167, 126, 61, 100, 93, 25, 115, 96, 129, 79, 220, 34, 42, 144, 136, 70, 238, 184, 20, 222, 94, 11, 219,
  224, 50, 58, 10, 73, 6, 36, 92, 194, 211, 172, 98, 145, 149, 228, 121, 231, 200, 55, 109, 141, 213, 78, 169, 108, 86, 244, 234, 101, 122, 174, 8,
  186, 120, 37, 46, 28, 166, 180, 198, 232, 221, 116, 31, 75, 189, 139, 138, 112, 62, 181, 102, 72, 3, 246, 14, 97, 53, 87, 185, 134, 193, 29, 158,
  225, 248, 152, 17, 105, 217, 142, 148, 155, 30, 135, 233, 206, 85, 40, 223, 140, 161, 137, 13, 191, 230, 66, 104, 65, 153, 45, 15, 176, 84, 187, 22]
def unLit : List UInt8 := [82, 9, 106, 213, 48, 54, 165, 56, 191, 64, 163, 158, 129, 243, 215, 251, 124, 227, 57, 130, 155, 47, 255, 135, 52, 142, 67, 68, 196, 222, 233, 203,
  84, 123, 148, 50, 166, 194, 35, 61, 238, 76, 149, 11, 66, 250, 195, 78, 8, 46, 161, 102, 40, 217, 36, 178, 118, 91, 162, 73, 109, 139, 209, 37,
  114, 248, 246, 100, 134, 104, 152, 22, 212, 164, 92, 204, 93, 101, 182, 146, 108, 112, 72, 80, 253, 237, 185, 218, 94, 21, 70, 87, 167, 141, 157, 132,
  144, 216, 171, 0, 140, 188, 211, 10, 247, 228, 88, 5, 184, 179, 69, 6, 208, 44, 30, 143, 202, 63, 15, 2, 193, 175, 189, 3, 1, 19, 138, 107,
  58, 145, 17, 65, 79, 103, 220, 234, 151, 242, 207, 206, 240, 180, 230, 115, 150, 172, 116, 34, 231, 173, 53, 133, 226, 249, 55, 232, 28, 117, 223, 110,
  71, 241, 26, 113, 29, 41, 197, 137, 111, 183, 98, 14, 170, 24, 190, 27, 252, 86, 62, 75, 198, 210, 121, 32, 154, 219, 192, 254, 120, 205, 90, 244,
  31, 221, 168, 51, 136, 7, 199, 49, 177, 18, 16, 89, 39, 128, 236, 95, 96, 81, 127, 169, 25, 181, 74, 13, 45, 229, 122, 159, 147, 201, 156, 239,
  160, 224, 59, 77, 174, 42, 245, 176, 200, 235, 187, 60, 131, 83, 153, 97, 23, 43, 4, 126, 186, 119, 214, 38, 225, 105, 20, 99, 85, 33, 12, 125]
set_option maxRecDepth 100000 in
theorem box_lit : (invS 255).map bent = boxLit := by decide +kernel
set_option maxRecDepth 100000 in
theorem un_lit : ∀ n : Fin 256, unLit.getD (boxLit.getD n.val 0).toNat 0 = UInt8.ofNat n.val := by decide +kernel
theorem box_of (x : UInt8) : box x = boxLit.getD x.toNat 0 := by
  have h := UInt8.toNat_lt x
  rw [← box_lit, box_tab]
  unfold boxT
  simp [List.getD_eq_getElem?_getD, h]
theorem box_inj {x y : UInt8} (h : box x = box y) : x = y := by
  have e : ∀ z : UInt8, unLit.getD (box z).toNat 0 = z := fun z => by
    rw [box_of]
    have := un_lit ⟨z.toNat, UInt8.toNat_lt z⟩
    simpa using this
  rw [← e x, ← e y, h]

theorem top_bit (x : UInt8) : x >>> 7 = 0 ∨ x >>> 7 = 1 := by
  have h : ∀ n : Fin 256, (UInt8.ofNat n.val) >>> 7 = 0 ∨ (UInt8.ofNat n.val) >>> 7 = 1 := by decide +kernel
  have := h ⟨x.toNat, UInt8.toNat_lt x⟩
  simpa using this
theorem xor_back (x y : UInt8) : x ^^^ (x ^^^ y) = y := by rw [← UInt8.xor_assoc, UInt8.xor_self, UInt8.zero_xor]
theorem xor_move (x y z : UInt8) : x ^^^ (y ^^^ z) = y ^^^ (x ^^^ z) := by rw [← UInt8.xor_assoc, UInt8.xor_comm x y, UInt8.xor_assoc]
theorem dbl_add (x y : UInt8) : dbl (x ^^^ y) = dbl x ^^^ dbl y := by
  unfold dbl
  rw [UInt8.shiftLeft_xor, UInt8.shiftRight_xor]
  rcases top_bit x with hx | hx <;> rcases top_bit y with hy | hy <;> rw [hx, hy] <;> simp [UInt8.xor_assoc, UInt8.xor_comm, xor_move]

/-- A byte of a mixed column. -/
def mx (p q r s : UInt8) : UInt8 := dbl (p ^^^ q) ^^^ q ^^^ r ^^^ s
/-- Mixed twice, each byte knows only itself and the one opposite. -/
theorem mx_twice (p q r s : UInt8) : mx (mx p q r s) (mx q r s p) (mx r s p q) (mx s p q r) = dbl (dbl (p ^^^ r)) ^^^ p := by
  unfold mx
  simp [dbl_add, UInt8.xor_assoc, UInt8.xor_comm, xor_move, xor_back]
/-- What undoes a mixed column. -/
def unmx (P Q R S : UInt8) : UInt8 := dbl (dbl (mx P Q R S ^^^ mx R S P Q)) ^^^ mx P Q R S
theorem unmx_mx (p q r s : UInt8) : unmx (mx p q r s) (mx q r s p) (mx r s p q) (mx s p q r) = p := by
  unfold unmx
  rw [mx_twice p q r s, mx_twice r s p q]
  simp [dbl_add, UInt8.xor_comm, xor_move]

theorem list16 {a b : List UInt8} (ha : a.length = 16) (hb : b.length = 16) (h : ∀ i, i < 16 → a.getD i 0 = b.getD i 0) : a = b := by
  apply List.ext_getElem (by omega)
  intro i h1 h2
  have := h i (by omega)
  simpa [List.getD_eq_getElem?_getD, h1, h2] using this
theorem xorL_inj {a b k : List UInt8} (ha : a.length = 16) (hb : b.length = 16) (hk : k.length = 16) (h : xorL a k = xorL b k) : a = b := by
  refine list16 ha hb fun i hi => ?_
  have : (xorL a k).getD i 0 = (xorL b k).getD i 0 := by rw [h]
  rw [xorL_at (by omega) (by omega), xorL_at (by omega) (by omega)] at this
  have e := congrArg (k.getD i 0 ^^^ ·) this
  simp only [UInt8.xor_comm _ (k.getD i 0), xor_back] at e
  exact e
theorem shf_all : ∀ j : Fin 16, ∃ i : Fin 16, (i.val + i.val % 4 * 4) % 16 = j.val := by decide
theorem shf_inj {a b : List UInt8} (ha : a.length = 16) (hb : b.length = 16) (h : shf a = shf b) : a = b := by
  refine list16 ha hb fun j hj => ?_
  obtain ⟨i, hi⟩ := shf_all ⟨j, hj⟩
  have : (shf a).getD i.val 0 = (shf b).getD i.val 0 := by rw [h]
  rw [shf_at a i.isLt, shf_at b i.isLt, hi] at this
  exact box_inj this
theorem mix_col (b : List UInt8) (c : Nat) : mixAt b (4 * c) = mx (b.getD (4 * c) 0) (b.getD (4 * c + 1) 0) (b.getD (4 * c + 2) 0) (b.getD (4 * c + 3) 0) ∧ mixAt b (4 * c + 1) = mx (b.getD (4 * c + 1) 0) (b.getD (4 * c + 2) 0) (b.getD (4 * c + 3) 0) (b.getD (4 * c) 0) ∧
    mixAt b (4 * c + 2) = mx (b.getD (4 * c + 2) 0) (b.getD (4 * c + 3) 0) (b.getD (4 * c) 0) (b.getD (4 * c + 1) 0) ∧ mixAt b (4 * c + 3) = mx (b.getD (4 * c + 3) 0) (b.getD (4 * c) 0) (b.getD (4 * c + 1) 0) (b.getD (4 * c + 2) 0) :=
  ⟨mix0 b c, mix1 b c, mix2 b c, mix3 b c⟩
theorem mixL_inj {a b : List UInt8} (ha : a.length = 16) (hb : b.length = 16) (h : mixL a = mixL b) : a = b := by
  have hc : ∀ i, i < 16 → mixAt a i = mixAt b i := fun i hi => by
    have : (mixL a).getD i 0 = (mixL b).getD i 0 := by rw [h]
    rw [mixL_at a hi, mixL_at b hi] at this
    exact this
  have col : ∀ c, c < 4 → a.getD (4 * c) 0 = b.getD (4 * c) 0 ∧ a.getD (4 * c + 1) 0 = b.getD (4 * c + 1) 0 ∧ a.getD (4 * c + 2) 0 = b.getD (4 * c + 2) 0 ∧ a.getD (4 * c + 3) 0 = b.getD (4 * c + 3) 0 := fun c hlt => by
    obtain ⟨a0, a1, a2, a3⟩ := mix_col a c
    obtain ⟨b0, b1, b2, b3⟩ := mix_col b c
    have e0 := hc (4 * c) (by omega)
    have e1 := hc (4 * c + 1) (by omega)
    have e2 := hc (4 * c + 2) (by omega)
    have e3 := hc (4 * c + 3) (by omega)
    rw [a0, b0] at e0
    rw [a1, b1] at e1
    rw [a2, b2] at e2
    rw [a3, b3] at e3
    refine ⟨?_, ?_, ?_, ?_⟩
    · rw [← unmx_mx (a.getD (4 * c) 0) (a.getD (4 * c + 1) 0) (a.getD (4 * c + 2) 0) (a.getD (4 * c + 3) 0), e0, e1, e2, e3, unmx_mx]
    · rw [← unmx_mx (a.getD (4 * c + 1) 0) (a.getD (4 * c + 2) 0) (a.getD (4 * c + 3) 0) (a.getD (4 * c) 0), e0, e1, e2, e3, unmx_mx]
    · rw [← unmx_mx (a.getD (4 * c + 2) 0) (a.getD (4 * c + 3) 0) (a.getD (4 * c) 0) (a.getD (4 * c + 1) 0), e0, e1, e2, e3, unmx_mx]
    · rw [← unmx_mx (a.getD (4 * c + 3) 0) (a.getD (4 * c) 0) (a.getD (4 * c + 1) 0) (a.getD (4 * c + 2) 0), e0, e1, e2, e3, unmx_mx]
  refine list16 ha hb fun i hi => ?_
  obtain ⟨h0, h1, h2, h3⟩ := col (i / 4) (by omega)
  have hi4 : i % 4 = 0 ∨ i % 4 = 1 ∨ i % 4 = 2 ∨ i % 4 = 3 := by omega
  rcases hi4 with e | e | e | e
  · rw [show i = 4 * (i / 4) from by omega]; exact h0
  · rw [show i = 4 * (i / 4) + 1 from by omega]; exact h1
  · rw [show i = 4 * (i / 4) + 2 from by omega]; exact h2
  · rw [show i = 4 * (i / 4) + 3 from by omega]; exact h3

theorem blkS_inj {K a b : List UInt8} (hK : K.length = 240) (ha : a.length = 16) (hb : b.length = 16) : ∀ r, r ≤ 14 → blkS K a r = blkS K b r → a = b
  | 0, hr, h => xorL_inj ha hb (rk_length hK hr) h
  | r + 1, hr, h => by
    have la := blkS_length hK ha (r := r) (by omega)
    have lb := blkS_length hK hb (r := r) (by omega)
    rw [blkS, blkS] at h
    refine blkS_inj hK ha hb r (by omega) ?_
    by_cases h14 : r + 1 < 14
    · rw [if_pos h14, if_pos h14] at h
      exact shf_inj la lb (mixL_inj (shf_length _) (shf_length _) (xorL_inj (mixL_length _) (mixL_length _) (rk_length hK hr) h))
    · rw [if_neg h14, if_neg h14] at h
      exact shf_inj la lb (xorL_inj (shf_length _) (shf_length _) (rk_length hK hr) h)
theorem aes_apart {K a b : List UInt8} (hK : K.length = 240) (ha : a.length = 16) (hb : b.length = 16) : decide (aesL K a = aesL K b) = decide (a = b) := by
  rw [decide_eq_decide]
  constructor
  · exact blkS_inj hK ha hb 14 (Nat.le_refl _)
  · rintro rfl
    rfl

end Go.Proofs.YtjpejheipkfanaaDoor

/-
  The contracts of the reference's roundKey, shifted and mixed. Conditions: blocks of 16 bytes; the box of all bytes, and the words of all rounds' keys, lie where the slices lead.
-/
namespace Go.Proofs.YtjpejheipkfanaaDoor
open Go.RowKit

/-- The words of all rounds' keys. -/
def wdsL (F : List UInt8) : List (List UInt8) := (List.range 60).map (wd F)
theorem wdsL_at (F : List UInt8) {j : Nat} (h : j < 60) : (wdsL F).getD j [] = wd F j := by simp [wdsL, List.getD_eq_getElem?_getD, h]
theorem rk_step {F : List UInt8} {r k : Nat} : ((F.drop (16 * r)).take (4 * k)) ++ wd F (4 * r + k) = (F.drop (16 * r)).take (4 * (k + 1)) := by
  unfold wd
  rw [show 4 * (k + 1) = 4 * k + 4 from by omega, List.take_add, List.drop_drop, show 16 * r + 4 * k = 4 * (4 * r + k) from by omega]

theorem map16_step (f : Nat → UInt8) {k : Nat} (h : k < 16) : ((List.range 16).map f).take (k + 1) = ((List.range 16).map f).take k ++ [f k] := by
  rw [take_snoc (by simp; exact h)]
  simp
theorem map16_room (f : Nat → UInt8) (k : Nat) (x : UInt8) : (((List.range 16).map f).take k).length + [x].length ≤ 1000000000 := take_room (n := 16) (by simp) (by omega) k x

end Go.Proofs.YtjpejheipkfanaaDoor

/-
  The contract of the reference's mixed. Condition: a block of 16 bytes.
-/
namespace Go.Proofs.YtjpejheipkfanaaDoor
open Go.RowKit

/-- Multiplied, by a number as the program has it. -/
def tmsI (x : UInt8) (z : Int) : UInt8 := tms x (UInt8.ofNat z.toNat)
theorem times2 (x : UInt8) : tmsI x 2 = dbl x := by
  have h : ∀ n : Fin 256, tmsI (UInt8.ofNat n.val) 2 = dbl (UInt8.ofNat n.val) := by decide +kernel
  have := h ⟨x.toNat, UInt8.toNat_lt x⟩
  simpa using this
theorem times3 (x : UInt8) : tmsI x 3 = x ^^^ dbl x := by
  have h : ∀ n : Fin 256, tmsI (UInt8.ofNat n.val) 3 = UInt8.ofNat n.val ^^^ dbl (UInt8.ofNat n.val) := by decide +kernel
  have := h ⟨x.toNat, UInt8.toNat_lt x⟩
  simpa using this
theorem mix_ref (p q r s : UInt8) : tmsI p 2 ^^^ tmsI q 3 ^^^ r ^^^ s = dbl (p ^^^ q) ^^^ q ^^^ r ^^^ s := by
  rw [times2, times3, dbl_add, UInt8.xor_assoc (dbl p) (dbl q) q, UInt8.xor_comm (dbl q) q]

theorem mod4 (j d : Nat) : ((j : Int) + (d : Int)).tmod 4 = (((j + d) % 4 : Nat) : Int) := by
  rw [Int.tmod_eq_emod_of_nonneg (by omega)]
  omega
theorem mix_idx (b : List UInt8) {k j : Nat} (hk : k < 4) (hj : j < 4) : ∃ t m1 m2 m3 n0 n1 n2 n3 : Nat, 4 * (k : Int) = (t : Int) ∧
    ((j : Int) + 1).tmod 4 = (m1 : Int) ∧ ((j : Int) + 2).tmod 4 = (m2 : Int) ∧ ((j : Int) + 3).tmod 4 = (m3 : Int) ∧ ((j : Int) + 1) % 4 = (m1 : Int) ∧ ((j : Int) + 2) % 4 = (m2 : Int) ∧ ((j : Int) + 3) % 4 = (m3 : Int) ∧
    IntKind.i64.wrap ((t : Int) + (j : Int)) = (n0 : Int) ∧ IntKind.i64.wrap ((t : Int) + (m1 : Int)) = (n1 : Int) ∧ IntKind.i64.wrap ((t : Int) + (m2 : Int)) = (n2 : Int) ∧ IntKind.i64.wrap ((t : Int) + (m3 : Int)) = (n3 : Int) ∧
    IntKind.i64.wrap ((j : Int) + 1) = (j : Int) + 1 ∧ IntKind.i64.wrap ((j : Int) + 2) = (j : Int) + 2 ∧ IntKind.i64.wrap ((j : Int) + 3) = (j : Int) + 3 ∧
    (0 : Int) ≤ (n0 : Int) ∧ (0 : Int) ≤ (n1 : Int) ∧ (0 : Int) ≤ (n2 : Int) ∧ (0 : Int) ≤ (n3 : Int) ∧ (n0 : Int) < 16 ∧ (n1 : Int) < 16 ∧ (n2 : Int) < 16 ∧ (n3 : Int) < 16 ∧
    mixAt b (4 * k + j) = tmsI (b.getD n0 0) 2 ^^^ tmsI (b.getD n1 0) 3 ^^^ b.getD n2 0 ^^^ b.getD n3 0 := by
  refine ⟨4 * k, (j + 1) % 4, (j + 2) % 4, (j + 3) % 4, 4 * k + j, 4 * k + (j + 1) % 4, 4 * k + (j + 2) % 4, 4 * k + (j + 3) % 4, by omega, mod4 j 1, mod4 j 2, mod4 j 3, by omega, by omega, by omega, ?_, ?_, ?_, ?_, ?_, ?_, ?_, by omega, by omega, by omega, by omega, by omega, by omega, by omega, by omega, ?_⟩
  · rw [IntKind.wrap_i64]; omega
  · rw [IntKind.wrap_i64]; omega
  · rw [IntKind.wrap_i64]; omega
  · rw [IntKind.wrap_i64]; omega
  · rw [IntKind.wrap_i64]; omega
  · rw [IntKind.wrap_i64]; omega
  · rw [IntKind.wrap_i64]; omega
  · rw [mix_ref]
    unfold mixAt
    rw [show (4 * k + j) / 4 * 4 + (4 * k + j) % 4 = 4 * k + j from by omega, show (4 * k + j) / 4 * 4 + (4 * k + j + 1) % 4 = 4 * k + (j + 1) % 4 from by omega, show (4 * k + j) / 4 * 4 + (4 * k + j + 2) % 4 = 4 * k + (j + 2) % 4 from by omega, show (4 * k + j) / 4 * 4 + (4 * k + j + 3) % 4 = 4 * k + (j + 3) % 4 from by omega]

end Go.Proofs.YtjpejheipkfanaaDoor

/-
  The contract of the reference's Words: the words of all rounds' keys. Condition: a key of 32 bytes; the box of all bytes lies where the slice leads.
-/
namespace Go.Proofs.YtjpejheipkfanaaDoor
open Go.RowKit

/-- A slice that lies in old memory, or in a block of bytes. -/
def Bytes5 (w : World) (base : Nat) (p : Option Addr) : Prop := ∀ x, p = some x → x.block < w.heap.size ∧ (x.block < base ∨ ∃ cur f, w.heap[x.block]? = some (.cells cur 5 f))
/-- The slices vs hold the words of F, each in old memory, or in a block of bytes. -/
def WordsIn (w : World) (base : Nat) (F : List UInt8) (vs : List Value) : Prop := ∀ i, i < vs.length → ∃ p q, vs[i]? = some (.slice p 4 q) ∧ Bs w p 4 q (wd F i) ∧ Bytes5 w base p

theorem Bytes5.below {w w' : World} {base : Nat} {p : Option Addr} (h : Bytes5 w base p) (hb : Below w.heap.size w w') : Bytes5 w' base p := fun x hx => by
  obtain ⟨h1, h2⟩ := h x hx
  refine ⟨Nat.lt_of_lt_of_le h1 hb.size, ?_⟩
  rcases h2 with h2 | ⟨cur, f, h2⟩
  · exact Or.inl h2
  · exact Or.inr ⟨cur, f, by rw [hb.block _ h1]; exact h2⟩
theorem WordsIn.below {w w' : World} {base : Nat} {F : List UInt8} {vs : List Value} (h : WordsIn w base F vs) (hb : Below w.heap.size w w') : WordsIn w' base F vs := fun i hi => by
  obtain ⟨p, q, e, hB, h5⟩ := h i hi
  exact ⟨p, q, e, hB.below hb (Nat.le_refl _), h5.below hb⟩
theorem OwnV.not5 {w : World} {base : Nat} {v : Value} {vs : List Value} (h : OwnV w base v vs) {p : Option Addr} (h5 : Bytes5 w base p) (x : Addr) (hx : p = some x) : v.ownBlock ≠ some x.block := fun e => by
  obtain ⟨h1, h2⟩ := h5 x hx
  rcases h2 with h2 | ⟨cur, f, h2⟩
  · have := h.size _ e
    omega
  · rcases h.2 with ⟨rfl, _⟩ | ⟨g, cap, cur', rfl, _, hg, _⟩
    · simp [Value.ownBlock] at e
    · simp only [Value.ownBlock, Option.some.injEq] at e
      rw [e, h2] at hg
      simp only [Option.some.injEq, Obj.cells.injEq] at hg
      exact absurd hg.2.1 (by decide)
theorem Bs.grownV {w w' : World} {r : Option Nat} {a : Option Addr} {n c : Nat} {l : List UInt8} (h : Bs w a n c l) (hg : w.grownBy w' r) (hr : ∀ x, a = some x → r ≠ some x.block) : Bs w' a n c l := by
  refine ⟨h.1, h.2.1, h.2.2.1, h.2.2.2.1, fun i hi => ?_⟩
  obtain ⟨b, o, ha, hc⟩ := h.2.2.2.2 i hi
  exact ⟨b, o, ha, hg.cell hc (fun e => hr _ ha e.symm)⟩
theorem Bytes5.grown {w w' : World} {base : Nat} {r : Option Nat} {p : Option Addr} (h : Bytes5 w base p) (hg : w.grownBy w' r) (hr : ∀ x, p = some x → r ≠ some x.block) : Bytes5 w' base p := fun x hx => by
  obtain ⟨h1, h2⟩ := h x hx
  refine ⟨Nat.lt_of_lt_of_le h1 hg.size, ?_⟩
  rcases h2 with h2 | ⟨cur, f, h2⟩
  · exact Or.inl h2
  · exact Or.inr ⟨cur, f, by rw [hg.block _ h1 (fun e => hr x hx e.symm)]; exact h2⟩
/-- One more word. -/
theorem WordsIn.snoc {w w' : World} {base : Nat} {F : List UInt8} {v : Value} {vs : List Value} {p : Option Addr} {q : Nat} (h : WordsIn w base F vs) (ho : OwnV w base v vs) (hg : w.grownBy w' v.ownBlock) (hB : Bs w p 4 q (wd F vs.length)) (h5 : Bytes5 w base p) : WordsIn w' base F (vs ++ [.slice p 4 q]) := fun i hi => by
  by_cases hlt : i < vs.length
  · obtain ⟨p', q', e, hB', h5'⟩ := h i hlt
    refine ⟨p', q', by rw [List.getElem?_append_left hlt]; exact e, hB'.grownV hg (ho.not5 h5'), h5'.grown hg (ho.not5 h5')⟩
  · have e : i = vs.length := by simp at hi; omega
    subst e
    exact ⟨p, q, by simp, hB.grownV hg (ho.not5 h5), h5.grown hg (ho.not5 h5)⟩
theorem Own.bytes5 {w : World} {b base : Nat} {p : Option Addr} {m q : Nat} {l : List UInt8} (h : Own w b (.slice p m q) l) : Bytes5 w base p := fun x hx => by
  subst hx
  refine ⟨(World.ownsRow.lt h _ rfl).2, ?_⟩
  rcases h.2 with ⟨e, _⟩ | ⟨g, cap, cur, e, _, hg, _⟩
  · simp at e
  · simp only [Value.slice.injEq, Option.some.injEq] at e
    obtain ⟨rfl, _, _⟩ := e
    exact Or.inr ⟨cur, (0, 0), hg⟩
/-- Slices of slices that are owned begin somewhere. -/
theorem OwnV.at {w : World} {base : Nat} {v : Value} {vs : List Value} (h : OwnV w base v vs) (hn : 0 < vs.length) : ∃ g cap, v = .slice (some ⟨g, 0, none⟩) vs.length cap ∧ ∀ i, i < vs.length → w.cell? ⟨g, i, none⟩ = vs[i]? := by
  have h' := h
  rcases h.2 with ⟨_, h0⟩ | ⟨g, cap, cur, rfl, _, _, _⟩
  · omega
  · refine ⟨g, cap, rfl, fun i hi => ?_⟩
    have := World.ownsRow.cellAt h' i (by omega)
    simpa using this
theorem WordsIn.bss {w : World} {base : Nat} {F : List UInt8} {v : Value} {vs : List Value} (h : WordsIn w base F vs) (ho : OwnV w base v vs) (hl : vs.length = 60) : ∃ a c, v = .slice a 60 c ∧ Bss w a 60 c (wdsL F) := by
  obtain ⟨a, c, hv, hB⟩ := ho.bss (ls := wdsL F) (by rw [hl]; simp [wdsL]) (fun i hi => by
    obtain ⟨p, q, e, hB, _⟩ := h i hi
    exact ⟨p, 4, q, e, by rw [wdsL_at F (by omega)]; exact hB⟩)
  rw [hl] at hv hB
  exact ⟨a, c, hv, hB⟩

theorem map4 (f : UInt8 → UInt8) {X : List UInt8} (h : X.length = 4) : X.map f = [f (X.getD 0 0), f (X.getD 1 0), f (X.getD 2 0), f (X.getD 3 0)] := by
  obtain ⟨a, b, c, d, rfl⟩ := len4 h
  rfl

end Go.Proofs.YtjpejheipkfanaaDoor

/-
  The contract of the reference's Block. Conditions: a block of 16 bytes; the box of all bytes, and the words of all rounds' keys, lie where the slices lead.
-/
namespace Go.Proofs.YtjpejheipkfanaaDoor
open Go.RowKit

/-- Sixteen bytes that a call handed back. -/
theorem Own.bs16 {w : World} {b : Nat} {p : Option Addr} {m q : Nat} {l : List UInt8} (h : Own w b (.slice p m q) l) (hl : l.length = 16) : m = 16 := by
  rw [← h.toBs.len]; exact hl

end Go.Proofs.YtjpejheipkfanaaDoor

/-
  The contract of the reference's Put: the lowest bytes of a number, the highest first, in memory of the call's own. Conditions: the number fits 64 bits; the size is at most 1000000.
-/
namespace Go.Proofs.YtjpejheipkfanaaDoor
open Go.RowKit

theorem put_rec {n s : Int} {w : World} {base : Nat} {v : Value} (h1 : 1 ≤ s) (h0 : 0 ≤ n) (h : Own w base v (putL (n / 256).toNat (s - 1).toNat ++ [UInt8.ofNat (n % 256).toNat])) : Own w base v (putL n.toNat s.toNat) := by
  have e : s.toNat = (s - 1).toNat + 1 := by omega
  rw [e, putL]
  have e2 : (n / 256).toNat = n.toNat / 256 := by omega
  have e3 : UInt8.ofNat n.toNat = UInt8.ofNat (n % 256).toNat := by
    apply UInt8.toNat_inj.1
    rw [UInt8.toNat_ofNat', UInt8.toNat_ofNat']
    omega
  rw [e3, ← e2]
  exact h

end Go.Proofs.YtjpejheipkfanaaDoor

/-
  The contract of layer 6's reference's counter: the sealed block of a nonce and a number. Conditions: the key's parts lie where its slices lead; a nonce of 12 bytes; a number below 2^32.
-/
namespace Go.Proofs.YtjpejheipkfanaaDoor
open Go.RowKit

/-- A key of the reference, in its parts: the box, the words, the element's bits. -/
structure KeyR (w : World) (K : List UInt8) (a1 a2 a3 : Option Addr) (c1 c2 c3 : Nat) : Prop where
  box : Bs w a1 256 c1 boxT
  words : Bss w a2 60 c2 (wdsL K)
  elem : Bo w a3 128 c3 (fb (hKey K))
theorem KeyR.below {w w' : World} {K : List UInt8} {a1 a2 a3 : Option Addr} {c1 c2 c3 : Nat} (h : KeyR w K a1 a2 a3 c1 c2 c3) (hb : Below w.heap.size w w') : KeyR w' K a1 a2 a3 c1 c2 c3 :=
  ⟨h.box.below hb (Nat.le_refl _), h.words.below hb (Nat.le_refl _), h.elem.below hb (Nat.le_refl _)⟩
def kv (a1 a2 a3 : Option Addr) (c1 c2 c3 : Nat) : Value := .agg #[.slice a1 256 c1, .slice a2 60 c2, .slice a3 128 c3]

end Go.Proofs.YtjpejheipkfanaaDoor

/-
  append of bytes that tells which block alone was written. No condition; no statement of the seat is proved here.
-/
namespace Go.Proofs.YtjpejheipkfanaaDoor
open Go.RowKit

/-- 'append(out, src...)', out the call's own, src whatever slice of bytes; nothing old but out's own block is written. -/
theorem wpList_appG {ops : Array Oper} {rest : List Oper} {o : Oper} {a : Act} {Q : Exit → Act → World → Prop} (w : World) (hgd : o.guard = none) (s x : Operand)
    (ho : o.op = Op.call { callee := Callee.builtin Builtin.append, args := #[s, x], argTypes := #[22, 22] }) (base : Nat) (v : Value) (l : List UInt8) (hs : a.eval s = v) (hown : Own w base v l)
    (ao : Option Addr) (m c : Nat) (news : List UInt8) (hx : a.eval x = .slice ao m c) (hb : Bs w ao m c news) (hz : l.length + news.length ≤ 1000000000) (hbase : base ≤ w.heap.size)
    (h : ∀ v' w', Own w' base v' (l ++ news) → w.grownBy w' v.ownBlock → wpList Tryd.prog ops Q rest (a.put o.dst v') w') : wpList Tryd.prog ops Q (o :: rest) a w := by
  obtain ⟨i0, hi, hz0, hz1, hz2⟩ := info_parts info5
  have hl := hb.len
  cases ao with
  | none =>
    have hc := hb.2.2.2.1 rfl
    have hcap := hb.cap
    have e : news = [] := List.length_eq_zero_iff.1 (by omega)
    subst e
    obtain rfl : m = 0 := by omega
    subst hc
    refine wpList_append_own_none hgd s x 22 ho base 5 i0 1 Tryd.underlying22 hi v _ _ hs hown hx ?_
    refine h v w ?_ ⟨rfl, rfl, rfl, Nat.le_refl _, fun _ _ _ => rfl⟩
    rw [List.append_nil]
    exact hown
  | some ad =>
    refine wpList_append_own w hgd s x 22 ho base 5 i0 (.int .u8 0) 1 1 Tryd.underlying22 hi hz0 hz1 hz2 rfl (by decide) v _ _ hs hown ad m c (cs news) hx (by rw [cs_length]; omega) hb.news cs_one (by unfold maxLen; omega) (by omega) hbase ?_
    intro v' w' ho' hg _
    refine h v' w' ?_ hg
    unfold Own
    rw [cs_append, List.length_append, hl]
    exact ho'
theorem Own.lt {w : World} {base : Nat} {v : Value} {l : List UInt8} (h : Own w base v l) : ∀ k, v.ownBlock = some k → k < w.heap.size := fun k hk => (World.ownsRow.lt h k hk).2

end Go.Proofs.YtjpejheipkfanaaDoor
