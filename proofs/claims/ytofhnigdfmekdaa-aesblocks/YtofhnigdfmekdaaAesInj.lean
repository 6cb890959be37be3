/-
  Unlike blocks stay unlike, in plain lists: each step of a block is one-to-one. No condition but the lengths; nothing of the program.
-/
import Derived.Test.YtofhnigdfmekdaaAesT
import Derived.Test.YtofhnigdfmekdaaAesSeal
namespace Go.Proofs.Ytofhnigdfmekdaa
open Go.RowKit

/-- The box of all bytes, and what undoes it. -/
def boxLit : List UInt8 := [99, 124, 119, 123, 242, 107, 111, 197, 48, 1, 103, 43, 254, 215, 171, 118, 202, 130, 201, 125, 250, 89, 71, 240, 173, 212, 162, 175, 156, 164, 114, 192,
  183, 253, 147, 38, 54, 63, 247, 204, 52, 165, 229, 241, 113, 216, 49, 21, 4, 199, 35, 195, 24, 150, 5, 154, 7, 18, 128, 226, 235, 39, 178, 117,
  9, 131, 44, 26, 27, 110, 90, 160, 82, 59, 214, 179, 41, 227, 47, 132, 83, 209, 0, 237, 32, 252, 177, 91, 106, 203, 190, 57, 74, 76, 88, 207,
  208, 239, 170, 251, 67, 77, 51, 133, 69, 249, 2, 127, 80, 60, 159, 168, 81, 163, 64, 143, 146, 157, 56, 245, 188, 182, 218, 33, 16, 255, 243, 210,
  205, 12, 19, 236, 95, 151, 68, 23, 196, 167, 126, 61, 100, 93, 25, 115, 96, 129, 79, 220, 34, 42, 144, 136, 70, 238, 184, 20, 222, 94, 11, 219,
  224, 50, 58, 10, 73, 6, 36, 92, 194, 211, 172, 98, 145, 149, 228, 121, 231, 200, 55, 109, 141, 213, 78, 169, 108, 86, 244, 234, 101, 122, 174, 8,
  186, 120, 37, 46, 28, 166, 180, 198, 232, 221, 116, 31, 75, 189, 139, 138, 112, 62, 181, 102, 72, 3, 246, 14, 97, 53, 87, 185, 134, 193, 29, 158,
  225, 248, 152, 17, 105, 217, 142, 148, 155, 30, 135, 233, 206, 85, 40, 223, 140, 161, 137, 13, 191, 230, 66, 104, 65, 153, 45, 15, 176, 84, 187, 22]
def unLit : List UInt8 := [82, 9, 106, 213, 48, 54, 165, 56, 191, 64, 163, 158, 129, 243, 215, 251, 124, 227, 57, 130, 155, 47, 255, 135, 52, 142, 67, 68, 196, 222, 233, 203,
  84, 123, 148, 50, 166, 194, 35, 61, 238, 76, 149, 11, 66, 250, 195, 78, 8, 46, 161, 102, 40, 217, 36, 178, 118, 91, 162, 73, 109, 139, 209, 37,
  114, 248, 246, 100, 134, 104, 152, 22, 212, 164, 92, 204, 93, 101, 182, 146, 108, 112, 72, 80, 253, 237, 185, 218, 94, 21, 70, 87, 167, 141, 157, 132,
  144, 216, 171, 0, 140, 188, 211, 10, 247, 228, 88, 5, 184, 179, 69, 6, 208, 44, 30, 143, 202, 63, 15, 2, 193, 175, 189, 3, 1, 19, 138, 107,
  58, 145, 17, 65, 79, 103, 220, 234, 151, 242, 207, 206, 240, 180, 230, 115, 150, 172, 116, 34, 231, 173, 53, 133, 226, 249, 55, 232, 28, 117, 223, 110,
  71, 241, 26, 113, 29, 41, 197, 137, 111, 183, 98, 14, 170, 24, 190, 27, 252, 86, 62, 75, 198, 210, 121, 32, 154, 219, 192, 254, 120, 205, 90, 244,
  31, 221, 168, 51, 136, 7, 199, 49, 177, 18, 16, 89, 39, 128, 236, 95, 96, 81, 127, 169, 25, 181, 74, 13, 45, 229, 122, 159, 147, 201, 156, 239,
  160, 224, 59, 77, 174, 42, 245, 176, 200, 235, 187, 60, 131, 83, 153, 97, 23, 43, 4, 126, 186, 119, 214, 38, 225, 105, 20, 99, 85, 33, 12, 125]
set_option maxRecDepth 100000 in
theorem box_lit : (invS 255).map bent = boxLit := by decide +kernel
set_option maxRecDepth 100000 in
theorem un_lit : ∀ n : Fin 256, unLit.getD (boxLit.getD n.val 0).toNat 0 = UInt8.ofNat n.val := by decide +kernel
theorem box_of (x : UInt8) : box x = boxLit.getD x.toNat 0 := by
  have h := UInt8.toNat_lt x
  rw [← box_lit, box_tab]
  unfold boxT
  simp [List.getD_eq_getElem?_getD, h]
theorem box_inj {x y : UInt8} (h : box x = box y) : x = y := by
  have e : ∀ z : UInt8, unLit.getD (box z).toNat 0 = z := fun z => by
    rw [box_of]
    have := un_lit ⟨z.toNat, UInt8.toNat_lt z⟩
    simpa using this
  rw [← e x, ← e y, h]

theorem top_bit (x : UInt8) : x >>> 7 = 0 ∨ x >>> 7 = 1 := by
  have h : ∀ n : Fin 256, (UInt8.ofNat n.val) >>> 7 = 0 ∨ (UInt8.ofNat n.val) >>> 7 = 1 := by decide +kernel
  have := h ⟨x.toNat, UInt8.toNat_lt x⟩
  simpa using this
theorem xor_back (x y : UInt8) : x ^^^ (x ^^^ y) = y := by rw [← UInt8.xor_assoc, UInt8.xor_self, UInt8.zero_xor]
theorem xor_move (x y z : UInt8) : x ^^^ (y ^^^ z) = y ^^^ (x ^^^ z) := by rw [← UInt8.xor_assoc, UInt8.xor_comm x y, UInt8.xor_assoc]
theorem dbl_add (x y : UInt8) : dbl (x ^^^ y) = dbl x ^^^ dbl y := by
  unfold dbl
  rw [UInt8.shiftLeft_xor, UInt8.shiftRight_xor]
  rcases top_bit x with hx | hx <;> rcases top_bit y with hy | hy <;> rw [hx, hy] <;> simp [UInt8.xor_assoc, UInt8.xor_comm, xor_move]

/-- A byte of a mixed column. -/
def mx (p q r s : UInt8) : UInt8 := dbl (p ^^^ q) ^^^ q ^^^ r ^^^ s
/-- Mixed twice, each byte knows only itself and the one opposite. -/
theorem mx_twice (p q r s : UInt8) : mx (mx p q r s) (mx q r s p) (mx r s p q) (mx s p q r) = dbl (dbl (p ^^^ r)) ^^^ p := by
  unfold mx
  simp [dbl_add, UInt8.xor_assoc, UInt8.xor_comm, xor_move, xor_back]
/-- What undoes a mixed column. -/
def unmx (P Q R S : UInt8) : UInt8 := dbl (dbl (mx P Q R S ^^^ mx R S P Q)) ^^^ mx P Q R S
theorem unmx_mx (p q r s : UInt8) : unmx (mx p q r s) (mx q r s p) (mx r s p q) (mx s p q r) = p := by
  unfold unmx
  rw [mx_twice p q r s, mx_twice r s p q]
  simp [dbl_add, UInt8.xor_comm, xor_move]

theorem list16 {a b : List UInt8} (ha : a.length = 16) (hb : b.length = 16) (h : ∀ i, i < 16 → a.getD i 0 = b.getD i 0) : a = b := by
  apply List.ext_getElem (by omega)
  intro i h1 h2
  have := h i (by omega)
  simpa [List.getD_eq_getElem?_getD, h1, h2] using this
theorem xorL_inj {a b k : List UInt8} (ha : a.length = 16) (hb : b.length = 16) (hk : k.length = 16) (h : xorL a k = xorL b k) : a = b := by
  refine list16 ha hb fun i hi => ?_
  have : (xorL a k).getD i 0 = (xorL b k).getD i 0 := by rw [h]
  rw [xorL_at (by omega) (by omega), xorL_at (by omega) (by omega)] at this
  have e := congrArg (k.getD i 0 ^^^ ·) this
  simp only [UInt8.xor_comm _ (k.getD i 0), xor_back] at e
  exact e
theorem shf_all : ∀ j : Fin 16, ∃ i : Fin 16, (i.val + i.val % 4 * 4) % 16 = j.val := by decide
theorem shf_inj {a b : List UInt8} (ha : a.length = 16) (hb : b.length = 16) (h : shf a = shf b) : a = b := by
  refine list16 ha hb fun j hj => ?_
  obtain ⟨i, hi⟩ := shf_all ⟨j, hj⟩
  have : (shf a).getD i.val 0 = (shf b).getD i.val 0 := by rw [h]
  rw [shf_at a i.isLt, shf_at b i.isLt, hi] at this
  exact box_inj this
theorem mix_col (b : List UInt8) (c : Nat) : mixAt b (4 * c) = mx (b.getD (4 * c) 0) (b.getD (4 * c + 1) 0) (b.getD (4 * c + 2) 0) (b.getD (4 * c + 3) 0) ∧ mixAt b (4 * c + 1) = mx (b.getD (4 * c + 1) 0) (b.getD (4 * c + 2) 0) (b.getD (4 * c + 3) 0) (b.getD (4 * c) 0) ∧
    mixAt b (4 * c + 2) = mx (b.getD (4 * c + 2) 0) (b.getD (4 * c + 3) 0) (b.getD (4 * c) 0) (b.getD (4 * c + 1) 0) ∧ mixAt b (4 * c + 3) = mx (b.getD (4 * c + 3) 0) (b.getD (4 * c) 0) (b.getD (4 * c + 1) 0) (b.getD (4 * c + 2) 0) :=
  ⟨mix0 b c, mix1 b c, mix2 b c, mix3 b c⟩
theorem mixL_inj {a b : List UInt8} (ha : a.length = 16) (hb : b.length = 16) (h : mixL a = mixL b) : a = b := by
  have hc : ∀ i, i < 16 → mixAt a i = mixAt b i := fun i hi => by
    have : (mixL a).getD i 0 = (mixL b).getD i 0 := by rw [h]
    rw [mixL_at a hi, mixL_at b hi] at this
    exact this
  have col : ∀ c, c < 4 → a.getD (4 * c) 0 = b.getD (4 * c) 0 ∧ a.getD (4 * c + 1) 0 = b.getD (4 * c + 1) 0 ∧ a.getD (4 * c + 2) 0 = b.getD (4 * c + 2) 0 ∧ a.getD (4 * c + 3) 0 = b.getD (4 * c + 3) 0 := fun c hlt => by
    obtain ⟨a0, a1, a2, a3⟩ := mix_col a c
    obtain ⟨b0, b1, b2, b3⟩ := mix_col b c
    have e0 := hc (4 * c) (by omega)
    have e1 := hc (4 * c + 1) (by omega)
    have e2 := hc (4 * c + 2) (by omega)
    have e3 := hc (4 * c + 3) (by omega)
    rw [a0, b0] at e0
    rw [a1, b1] at e1
    rw [a2, b2] at e2
    rw [a3, b3] at e3
    refine ⟨?_, ?_, ?_, ?_⟩
    · rw [← unmx_mx (a.getD (4 * c) 0) (a.getD (4 * c + 1) 0) (a.getD (4 * c + 2) 0) (a.getD (4 * c + 3) 0), e0, e1, e2, e3, unmx_mx]
    · rw [← unmx_mx (a.getD (4 * c + 1) 0) (a.getD (4 * c + 2) 0) (a.getD (4 * c + 3) 0) (a.getD (4 * c) 0), e0, e1, e2, e3, unmx_mx]
    · rw [← unmx_mx (a.getD (4 * c + 2) 0) (a.getD (4 * c + 3) 0) (a.getD (4 * c) 0) (a.getD (4 * c + 1) 0), e0, e1, e2, e3, unmx_mx]
    · rw [← unmx_mx (a.getD (4 * c + 3) 0) (a.getD (4 * c) 0) (a.getD (4 * c + 1) 0) (a.getD (4 * c + 2) 0), e0, e1, e2, e3, unmx_mx]
  refine list16 ha hb fun i hi => ?_
  obtain ⟨h0, h1, h2, h3⟩ := col (i / 4) (by omega)
  have hi4 : i % 4 = 0 ∨ i % 4 = 1 ∨ i % 4 = 2 ∨ i % 4 = 3 := by omega
  rcases hi4 with e | e | e | e
  · rw [show i = 4 * (i / 4) from by omega]; exact h0
  · rw [show i = 4 * (i / 4) + 1 from by omega]; exact h1
  · rw [show i = 4 * (i / 4) + 2 from by omega]; exact h2
  · rw [show i = 4 * (i / 4) + 3 from by omega]; exact h3

theorem blkS_inj {K a b : List UInt8} (hK : K.length = 240) (ha : a.length = 16) (hb : b.length = 16) : ∀ r, r ≤ 14 → blkS K a r = blkS K b r → a = b
  | 0, hr, h => xorL_inj ha hb (rk_length hK hr) h
  | r + 1, hr, h => by
    have la := blkS_length hK ha (r := r) (by omega)
    have lb := blkS_length hK hb (r := r) (by omega)
    rw [blkS, blkS] at h
    refine blkS_inj hK ha hb r (by omega) ?_
    by_cases h14 : r + 1 < 14
    · rw [if_pos h14, if_pos h14] at h
      exact shf_inj la lb (mixL_inj (shf_length _) (shf_length _) (xorL_inj (mixL_length _) (mixL_length _) (rk_length hK hr) h))
    · rw [if_neg h14, if_neg h14] at h
      exact shf_inj la lb (xorL_inj (shf_length _) (shf_length _) (rk_length hK hr) h)
theorem aes_apart {K a b : List UInt8} (hK : K.length = 240) (ha : a.length = 16) (hb : b.length = 16) : decide (aesL K a = aesL K b) = decide (a = b) := by
  rw [decide_eq_decide]
  constructor
  · exact blkS_inj hK ha hb 14 (Nat.le_refl _)
  · rintro rfl
    rfl

end Go.Proofs.Ytofhnigdfmekdaa
