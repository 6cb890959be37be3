/-
  6 texts in one. No statement of the seat is proved here.
-/
import Derived.Test.YtfknplcnfpincaaGreatG12

/-
  The contracts of the reference's Boxes, both and roundKey. Conditions: rows of like lengths; words of four bytes.
-/
namespace Go.Proofs.YtfknplcnfpincaaGreat
open Go.RowKit

theorem Own.drN {w : World} {base : Nat} {v : Value} {l : List UInt8} (h : Own w base v l) (d : Nat) : Own (w.drewN d) base v l := h
theorem boxT_step {k : Nat} (h : k < 256) : boxT.take (k + 1) = boxT.take k ++ [box (UInt8.ofNat k)] := by
  rw [take_snoc (by rw [boxT_length]; exact h)]
  simp [boxT]
theorem take_room {L : List UInt8} {n : Nat} (hL : L.length ≤ n) (hn : n ≤ 1000000) (k : Nat) (x : UInt8) : (L.take k).length + [x].length ≤ 1000000000 := by
  have : (L.take k).length ≤ L.length := List.length_take_le' _ _
  simp only [List.length_singleton]
  omega

set_option maxRecDepth 100000 in
set_option maxHeartbeats 1000000 in
theorem rBoxes (w : World) : Calls Tryz.prog 62 #[] w (Gives w boxT) := by
  go_enter Tryz.func62, Tryz.ntmps62
  go_wp2_with fail
  go_loopw [1, 2] (fun v i wr => ∃ k : Nat, k ≤ 256 ∧ i = .int .i64 k ∧ Own wr w.heap.size v (boxT.take k) ∧ Below w.heap.size w wr) (fun _ i _ => 256 - (intOf i).toNat)
  case atStart => exact ⟨0, by omega, rfl, Own.nil _ _, Below.refl _ _⟩
  case round =>
    obtain ⟨k, hk, rfl, ho, hb⟩ := hrel
    by_cases hlt : k < 256
    · have h0 : (0 : Int) ≤ (k : Int) := by omega
      have h8 : (k : Int) < 256 := by omega
      have h9 : (k : Int) % 256 = (k : Int) := by omega
      have hw8 : IntKind.u8.wrap (k : Int) = (k : Int) := by rw [IntKind.wrap_u8]; omega
      have HS := boxT_step hlt
      have hr := take_room (L := boxT) (n := 256) (by rw [boxT_length]; omega) (by omega) k (UInt8.ofNat ((box (UInt8.ofNat k)).toNat : Int).toNat)
      have CB : Hid (Calls Tryz.prog 77 #[.int .u8 (k : Int)] wr fun e w' => e = .returned (.int .u8 ((box (UInt8.ofNat k)).toNat : Int)) ∧ ∃ d, w' = wr.drewN d) := by
        have := rBox wr (UInt8.ofNat k)
        rw [nat_byte hlt] at this
        exact this
      generalize box (UInt8.ofNat k) = y at *
      have HS' : Hid (_ = _) := HS
      have q0 : (0 : Int) ≤ (y.toNat : Int) := by omega
      have q1 := u8_hi y
      have E1 : Hid (UInt8.ofNat (y.toNat : Int).toNat = y) := one_u8 y
      have hs := hb.size
      clear HS
      go_wp2_with fail
      refine CB.out.mono ?_
      rintro e w1 ⟨rfl, d, hw1⟩
      have hb1 : Below w.heap.size w w1 := by rw [hw1]; exact below_drN hb d
      have ho1 := ho.drN d
      rw [← hw1] at ho1
      have hs1 := hb1.size
      clear hw1 hb ho hs
      go_wp2_with (at_builtin; refine wpList_app _ rfl (.tmp 7) (.tmp 11) rfl w.heap.size _ _ rfl (ho1.below (below_alloc _ _) (Nat.le_refl _)) _ 1 1 [UInt8.ofNat (y.toNat : Int).toNat] rfl (Bs.one _ _ q0 q1) hr (by simp; omega) ?_; intro v2 w2 ho2 hb2)
      go_roundw
      case rel => exact ⟨k + 1, by omega, by go_num, by rw [HS'.out, ← E1.out]; exact ho2, (hb1.alloc hs1 _).trans hb2⟩
      case measure => simp [intOf]; omega
    · rw [List.take_of_length_le (by rw [boxT_length]; omega)] at ho
      go_wp2
      go_ret
      exact Gives.mk ho hb

set_option maxHeartbeats 1000000 in
theorem rBoth (w : World) {a b : Option Addr} {n c c' : Nat} {l m : List UInt8} (ha : Bs w a n c l) (hb : Bs w b n c' m) (hn : 0 < n) (hz : n ≤ 1000) :
    Calls Tryz.prog 79 #[.slice a n c, .slice b n c'] w (Gives w (xorL l m)) := by
  obtain ⟨x, o, rfl, hx, hc⟩ := ha.at hn
  obtain ⟨y, q, rfl, hy, hd⟩ := hb.at hn
  have H : Hid (l.length = n ∧ m.length = n) := ⟨ha.len, hb.len⟩
  clear ha hb
  go_enter Tryz.func79, Tryz.ntmps79
  go_wp2_with fail
  go_loopw [5, 6] (fun v i wr => ∃ k : Nat, k ≤ n ∧ i = .int .i64 k ∧ Own wr w.heap.size v (xorL (l.take k) (m.take k)) ∧ Below w.heap.size w wr) (fun _ i _ => n - (intOf i).toNat)
  case atStart => exact ⟨0, Nat.zero_le _, rfl, Own.nil _ _, Below.refl _ _⟩
  case round =>
    obtain ⟨k, hk, rfl, ho, hb⟩ := hrel
    by_cases hlt : k < n
    · have c1 : wr.cell? ⟨x, o + k, none⟩ = some (.int .u8 (bt l k)) := by rw [hb.cell (p := ⟨x, o + k, none⟩) hx]; exact hc k hlt
      have c2 : wr.cell? ⟨y, q + k, none⟩ = some (.int .u8 (bt m k)) := by rw [hb.cell (p := ⟨y, q + k, none⟩) hy]; exact hd k hlt
      obtain ⟨z, hz1, hz2⟩ := xor_eq (l := l) (m := m) (k := k) (by rw [H.out.1]; omega) (by rw [H.out.2]; omega)
      have hzlt := UInt8.toNat_lt z
      have b1 : 0 ≤ bits .xor .u8 (bt l k) (bt m k) := by rw [hz1]; omega
      have b2 : bits .xor .u8 (bt l k) (bt m k) ≤ 255 := by rw [hz1]; omega
      have hZ : Hid (UInt8.ofNat (bits .xor .u8 (bt l k) (bt m k)).toNat = z) := by
        show _ = _
        rw [hz1]
        simp
      have HZ : Hid (xorL (l.take (k + 1)) (m.take (k + 1)) = xorL (l.take k) (m.take k) ++ [z]) := hz2
      have hr : (xorL (l.take k) (m.take k)).length + [UInt8.ofNat (bits .xor .u8 (bt l k) (bt m k)).toNat].length ≤ 1000000000 := by
        unfold xorL
        simp
        omega
      have hs : w.heap.size ≤ wr.heap.size := hb.size
      have k0 : (0 : Int) ≤ (k : Int) := by omega
      have k1 : (k : Int) < n := by omega
      clear hz1 hz2 hzlt
      go_wp2_with fail
      go_region_held3 (fun w' => w'.cell? ⟨x, o + k, none⟩ = some (.int .u8 (bt l k)) ∧ w'.cell? ⟨y, q + k, none⟩ = some (.int .u8 (bt m k))) (first | assumption | (constructor <;> assumption) | go_keep) ((refine step_app (by rfl) (.tmp 13) (.tmp 23) (by rfl) w.heap.size _ _ (by rfl) (ho.below (below_alloc _ _).drew (Nat.le_refl _)) _ 1 1 [UInt8.ofNat (bits .xor .u8 (bt l k) (bt m k)).toNat] (by rfl) (Bs.one _ _ b1 b2).drew hr (by simp; omega) ?_; intro v2 w2 ho2 hb2; have q2 := (hb.trans ((below_alloc _ _).drew.mono hs)).trans hb2; have c1' : w2.cell? ⟨x, o + k, none⟩ = some (.int .u8 (bt l k)) := (q2.cell (p := ⟨x, o + k, none⟩) hx).trans (hc k hlt); have c2' : w2.cell? ⟨y, q + k, none⟩ = some (.int .u8 (bt m k)) := (q2.cell (p := ⟨y, q + k, none⟩) hy).trans (hd k hlt)))
      go_wp2
      go_roundw
      case rel => exact ⟨k + 1, by omega, by go_num, by rw [HZ.out, ← hZ.out]; exact ho2, q2⟩
      case measure => simp [intOf]; omega
    · have e : xorL (l.take k) (m.take k) = xorL l m := by rw [List.take_of_length_le (by rw [H.out.1]; omega), List.take_of_length_le (by rw [H.out.2]; omega)]
      rw [e] at ho
      go_wp2
      go_ret
      exact Gives.mk ho hb

end Go.Proofs.YtfknplcnfpincaaGreat

/-
  Unlike blocks stay unlike, in plain lists: each step of a block is one-to-one. No condition but the lengths; nothing of the program.
-/
namespace Go.Proofs.YtfknplcnfpincaaGreat
open Go.RowKit

/-- The box of all bytes, and what undoes it. -/
def boxLit : List UInt8 := [99, 124, 119, 123, 242, 107, 111, 197, 48, 1, 103, 43, 254, 215, 171, 118, 202, 130, 201, 125, 250, 89, 71, 240, 173, 212, 162, 175, 156, 164, 114, 192,
  183, 253, 147, 38, 54, 63, 247, 204, 52, 165, 229, 241, 113, 216, 49, 21, 4, 199, 35, 195, 24, 150, 5, 154, 7, 18, 128, 226, 235, 39, 178, 117,
  9, 131, 44, 26, 27, 110, 90, 160, 82, 59, 214, 179, 41, 227, 47, 132, 83, 209, 0, 237, 32, 252, 177, 91, 106, 203, 190, 57, 74, 76, 88, 207,
  208, 239, 170, 251, 67, 77, 51, 133, 69, 249, 2, 127, 80, 60, 159, 168, 81, 163, 64, 143, 146, 157, 56, 245, 188, 182, 218, 33, 16, 255, 243, 210,
  205, 12, 19, 236, 95, 151, 68, 23, 196, 167, 126, 61, 100, 93, 25, 115, 96, 129, 79, 220, 34, 42, 144, 136, 70, 238, 184, 20, 222, 94, 11, 219,
  224, 50, 58, 10, 73, 6, 36, 92, 194, 211, 172, 98, 145, 149, 228, 121, 231, 200, 55, 109, 141, 213, 78, 169, 108, 86, 244, 234, 101, 122, 174, 8,
  186, 120, 37, 46, 28, 166, 180, 198, 232, 221, 116, 31, 75, 189, 139, 138, 112, 62, 181, 102, 72, 3, 246, 14, 97, 53, 87, 185, 134, 193, 29, 158,
  225, 248, 152, 17, 105, 217, 142, 148, 155, 30, 135, 233, 206, 85, 40, 223, 140, 161, 137, 13, 191, 230, 66, 104, 65, 153, 45, 15, 176, 84, 187, 22]
def unLit : List UInt8 := [82, 9, 106, 213, 48, 54, 165, 56, 191, 64, 163, 158, 129, 243, 215, 251, 124, 227, 57, 130, 155, 47, 255, 135, 52, 142, 67, 68, 196, 222, 233, 203,
  84, 123, 148, 50, 166, 194, 35, 61, 238, 76, 149, 11, 66, 250, 195, 78, 8, 46, 161, 102, 40, 217, 36, 178, 118, 91, 162, 73, 109, 139, 209, 37,
  114, 248, 246, 100, 134, 104, 152, 22, 212, 164, 92, 204, 93, 101, 182, 146, 108, 112, 72, 80, 253, 237, 185, 218, 94, 21, 70, 87, 167, 141, 157, 132,
  144, 216, 171, 0, 140, 188, 211, 10, 247, 228, 88, 5, 184, 179, 69, 6, 208, 44, 30, 143, 202, 63, 15, 2, 193, 175, 189, 3, 1, 19, 138, 107,
  58, 145, 17, 65, 79, 103, 220, 234, 151, 242, 207, 206, 240, 180, 230, 115, 150, 172, 116, 34, 231, 173, 53, 133, 226, 249, 55, 232, 28, 117, 223, 110,
  71, 241, 26, 113, 29, 41, 197, 137, 111, 183, 98, 14, 170, 24, 190, 27, 252, 86, 62, 75, 198, 210, 121, 32, 154, 219, 192, 254, 120, 205, 90, 244,
  31, 221, 168, 51, 136, 7, 199, 49, 177, 18, 16, 89, 39, 128, 236, 95, 96, 81, 127, 169, 25, 181, 74, 13, 45, 229, 122, 159, 147, 201, 156, 239,
  160, 224, 59, 77, 174, 42, 245, 176, 200, 235, 187, 60, 131, 83, 153, 97, 23, 43, 4, 126, 186, 119, 214, 38, 225, 105, 20, 99, 85, 33, 12, 125]
set_option maxRecDepth 100000 in
theorem box_lit : (invS 255).map bent = boxLit := by decide +kernel
set_option maxRecDepth 100000 in
theorem un_lit : ∀ n : Fin 256, unLit.getD (boxLit.getD n.val 0).toNat 0 = UInt8.ofNat n.val := by decide +kernel
theorem box_of (x : UInt8) : box x = boxLit.getD x.toNat 0 := by
  have h := UInt8.toNat_lt x
  rw [← box_lit, box_tab]
  unfold boxT
  simp [List.getD_eq_getElem?_getD, h]
theorem box_inj {x y : UInt8} (h : box x = box y) : x = y := by
  have e : ∀ z : UInt8, unLit.getD (box z).toNat 0 = z := fun z => by
    rw [box_of]
    have := un_lit ⟨z.toNat, UInt8.toNat_lt z⟩
    simpa using this
  rw [← e x, ← e y, h]

theorem top_bit (x : UInt8) : x >>> 7 = 0 ∨ x >>> 7 = 1 := by
  have h : ∀ n : Fin 256, (UInt8.ofNat n.val) >>> 7 = 0 ∨ (UInt8.ofNat n.val) >>> 7 = 1 := by decide +kernel
  have := h ⟨x.toNat, UInt8.toNat_lt x⟩
  simpa using this
theorem xor_back (x y : UInt8) : x ^^^ (x ^^^ y) = y := by rw [← UInt8.xor_assoc, UInt8.xor_self, UInt8.zero_xor]
theorem xor_move (x y z : UInt8) : x ^^^ (y ^^^ z) = y ^^^ (x ^^^ z) := by rw [← UInt8.xor_assoc, UInt8.xor_comm x y, UInt8.xor_assoc]
theorem dbl_add (x y : UInt8) : dbl (x ^^^ y) = dbl x ^^^ dbl y := by
  unfold dbl
  rw [UInt8.shiftLeft_xor, UInt8.shiftRight_xor]
  rcases top_bit x with hx | hx <;> rcases top_bit y with hy | hy <;> rw [hx, hy] <;> simp [UInt8.xor_assoc, UInt8.xor_comm, xor_move]

/-- A byte of a mixed column. -/
def mx (p q r s : UInt8) : UInt8 := dbl (p ^^^ q) ^^^ q ^^^ r ^^^ s
/-- Mixed twice, each byte knows only itself and the one opposite. -/
theorem mx_twice (p q r s : UInt8) : mx (mx p q r s) (mx q r s p) (mx r s p q) (mx s p q r) = dbl (dbl (p ^^^ r)) ^^^ p := by
  unfold mx
  simp [dbl_add, UInt8.xor_assoc, UInt8.xor_comm, xor_move, xor_back]
/-- What undoes a mixed column. -/
def unmx (P Q R S : UInt8) : UInt8 := dbl (dbl (mx P Q R S ^^^ mx R S P Q)) ^^^ mx P Q R S
theorem unmx_mx (p q r s : UInt8) : unmx (mx p q r s) (mx q r s p) (mx r s p q) (mx s p q r) = p := by
  unfold unmx
  rw [mx_twice p q r s, mx_twice r s p q]
  simp [dbl_add, UInt8.xor_comm, xor_move]

theorem list16 {a b : List UInt8} (ha : a.length = 16) (hb : b.length = 16) (h : ∀ i, i < 16 → a.getD i 0 = b.getD i 0) : a = b := by
  apply List.ext_getElem (by omega)
  intro i h1 h2
  have := h i (by omega)
  simpa [List.getD_eq_getElem?_getD, h1, h2] using this
theorem xorL_inj {a b k : List UInt8} (ha : a.length = 16) (hb : b.length = 16) (hk : k.length = 16) (h : xorL a k = xorL b k) : a = b := by
  refine list16 ha hb fun i hi => ?_
  have : (xorL a k).getD i 0 = (xorL b k).getD i 0 := by rw [h]
  rw [xorL_at (by omega) (by omega), xorL_at (by omega) (by omega)] at this
  have e := congrArg (k.getD i 0 ^^^ ·) this
  simp only [UInt8.xor_comm _ (k.getD i 0), xor_back] at e
  exact e
theorem shf_all : ∀ j : Fin 16, ∃ i : Fin 16, (i.val + i.val % 4 * 4) % 16 = j.val := by decide
theorem shf_inj {a b : List UInt8} (ha : a.length = 16) (hb : b.length = 16) (h : shf a = shf b) : a = b := by
  refine list16 ha hb fun j hj => ?_
  obtain ⟨i, hi⟩ := shf_all ⟨j, hj⟩
  have : (shf a).getD i.val 0 = (shf b).getD i.val 0 := by rw [h]
  rw [shf_at a i.isLt, shf_at b i.isLt, hi] at this
  exact box_inj this
theorem mix_col (b : List UInt8) (c : Nat) : mixAt b (4 * c) = mx (b.getD (4 * c) 0) (b.getD (4 * c + 1) 0) (b.getD (4 * c + 2) 0) (b.getD (4 * c + 3) 0) ∧ mixAt b (4 * c + 1) = mx (b.getD (4 * c + 1) 0) (b.getD (4 * c + 2) 0) (b.getD (4 * c + 3) 0) (b.getD (4 * c) 0) ∧
    mixAt b (4 * c + 2) = mx (b.getD (4 * c + 2) 0) (b.getD (4 * c + 3) 0) (b.getD (4 * c) 0) (b.getD (4 * c + 1) 0) ∧ mixAt b (4 * c + 3) = mx (b.getD (4 * c + 3) 0) (b.getD (4 * c) 0) (b.getD (4 * c + 1) 0) (b.getD (4 * c + 2) 0) :=
  ⟨mix0 b c, mix1 b c, mix2 b c, mix3 b c⟩
theorem mixL_inj {a b : List UInt8} (ha : a.length = 16) (hb : b.length = 16) (h : mixL a = mixL b) : a = b := by
  have hc : ∀ i, i < 16 → mixAt a i = mixAt b i := fun i hi => by
    have : (mixL a).getD i 0 = (mixL b).getD i 0 := by rw [h]
    rw [mixL_at a hi, mixL_at b hi] at this
    exact this
  have col : ∀ c, c < 4 → a.getD (4 * c) 0 = b.getD (4 * c) 0 ∧ a.getD (4 * c + 1) 0 = b.getD (4 * c + 1) 0 ∧ a.getD (4 * c + 2) 0 = b.getD (4 * c + 2) 0 ∧ a.getD (4 * c + 3) 0 = b.getD (4 * c + 3) 0 := fun c hlt => by
    obtain ⟨a0, a1, a2, a3⟩ := mix_col a c
    obtain ⟨b0, b1, b2, b3⟩ := mix_col b c
    have e0 := hc (4 * c) (by omega)
    have e1 := hc (4 * c + 1) (by omega)
    have e2 := hc (4 * c + 2) (by omega)
    have e3 := hc (4 * c + 3) (by omega)
    rw [a0, b0] at e0
    rw [a1, b1] at e1
    rw [a2, b2] at e2
    rw [a3, b3] at e3
    refine ⟨?_, ?_, ?_, ?_⟩
    · rw [← unmx_mx (a.getD (4 * c) 0) (a.getD (4 * c + 1) 0) (a.getD (4 * c + 2) 0) (a.getD (4 * c + 3) 0), e0, e1, e2, e3, unmx_mx]
    · rw [← unmx_mx (a.getD (4 * c + 1) 0) (a.getD (4 * c + 2) 0) (a.getD (4 * c + 3) 0) (a.getD (4 * c) 0), e0, e1, e2, e3, unmx_mx]
    · rw [← unmx_mx (a.getD (4 * c + 2) 0) (a.getD (4 * c + 3) 0) (a.getD (4 * c) 0) (a.getD (4 * c + 1) 0), e0, e1, e2, e3, unmx_mx]
    · rw [← unmx_mx (a.getD (4 * c + 3) 0) (a.getD (4 * c) 0) (a.getD (4 * c + 1) 0) (a.getD (4 * c + 2) 0), e0, e1, e2, e3, unmx_mx]
  refine list16 ha hb fun i hi => ?_
  obtain ⟨h0, h1, h2, h3⟩ := col (i / 4) (by omega)
  have hi4 : i % 4 = 0 ∨ i % 4 = 1 ∨ i % 4 = 2 ∨ i % 4 = 3 := by omega
  rcases hi4 with e | e | e | e
  · rw [show i = 4 * (i / 4) from by omega]; exact h0
  · rw [show i = 4 * (i / 4) + 1 from by omega]; exact h1
  · rw [show i = 4 * (i / 4) + 2 from by omega]; exact h2
  · rw [show i = 4 * (i / 4) + 3 from by omega]; exact h3

theorem blkS_inj {K a b : List UInt8} (hK : K.length = 240) (ha : a.length = 16) (hb : b.length = 16) : ∀ r, r ≤ 14 → blkS K a r = blkS K b r → a = b
  | 0, hr, h => xorL_inj ha hb (rk_length hK hr) h
  | r + 1, hr, h => by
    have la := blkS_length hK ha (r := r) (by omega)
    have lb := blkS_length hK hb (r := r) (by omega)
    rw [blkS, blkS] at h
    refine blkS_inj hK ha hb r (by omega) ?_
    by_cases h14 : r + 1 < 14
    · rw [if_pos h14, if_pos h14] at h
      exact shf_inj la lb (mixL_inj (shf_length _) (shf_length _) (xorL_inj (mixL_length _) (mixL_length _) (rk_length hK hr) h))
    · rw [if_neg h14, if_neg h14] at h
      exact shf_inj la lb (xorL_inj (shf_length _) (shf_length _) (rk_length hK hr) h)
theorem aes_apart {K a b : List UInt8} (hK : K.length = 240) (ha : a.length = 16) (hb : b.length = 16) : decide (aesL K a = aesL K b) = decide (a = b) := by
  rw [decide_eq_decide]
  constructor
  · exact blkS_inj hK ha hb 14 (Nat.le_refl _)
  · rintro rfl
    rfl

end Go.Proofs.YtfknplcnfpincaaGreat

/-
  The contracts of the reference's roundKey, shifted and mixed. Conditions: blocks of 16 bytes; the box of all bytes, and the words of all rounds' keys, lie where the slices lead.
-/
namespace Go.Proofs.YtfknplcnfpincaaGreat
open Go.RowKit

/-- The words of all rounds' keys. -/
def wdsL (F : List UInt8) : List (List UInt8) := (List.range 60).map (wd F)
theorem wdsL_at (F : List UInt8) {j : Nat} (h : j < 60) : (wdsL F).getD j [] = wd F j := by simp [wdsL, List.getD_eq_getElem?_getD, h]
theorem rk_step {F : List UInt8} {r k : Nat} : ((F.drop (16 * r)).take (4 * k)) ++ wd F (4 * r + k) = (F.drop (16 * r)).take (4 * (k + 1)) := by
  unfold wd
  rw [show 4 * (k + 1) = 4 * k + 4 from by omega, List.take_add, List.drop_drop, show 16 * r + 4 * k = 4 * (4 * r + k) from by omega]

set_option maxHeartbeats 1000000 in
theorem rRoundKey (w : World) {a : Option Addr} {c : Nat} {F : List UInt8} (hF : F.length = 240) (ha : Bss w a 60 c (wdsL F)) (r : Nat) (hr : r ≤ 14) :
    Calls Tryz.prog 80 #[.slice a 60 c, .int .i64 (r : Int)] w (Gives w (rk F r)) := by
  obtain ⟨x, o, rfl, hx, hc⟩ := ha.at (by omega)
  have HF : Hid (F.length = 240) := hF
  clear ha hF
  go_enter Tryz.func80, Tryz.ntmps80
  go_wp2_with fail
  go_loopw [5, 6] (fun v i wr => ∃ k : Nat, k ≤ 4 ∧ i = .int .i64 k ∧ Own wr w.heap.size v ((F.drop (16 * r)).take (4 * k)) ∧ Below w.heap.size w wr) (fun _ i _ => 4 - (intOf i).toNat)
  case atStart => exact ⟨0, by omega, rfl, Own.nil _ _, Below.refl _ _⟩
  case round =>
    obtain ⟨k, hk, rfl, ho, hb⟩ := hrel
    by_cases hlt : k < 4
    · obtain ⟨p, m, q, c1, hB⟩ := Bss.part hc hb (4 * r + k) (by omega)
      have hB' := hB.below hb (Nat.le_refl _)
      rw [wdsL_at F (by omega)] at hB'
      have HS : Hid (_ = _) := rk_step (F := F) (r := r) (k := k)
      have HWL : Hid ((wd F (4 * r + k)).length = 4) := wd_length (by have := HF.out; omega)
      obtain ⟨j, hj⟩ : ∃ j, j = 4 * r + k := ⟨_, rfl⟩
      rw [← hj] at c1 hB' HS HWL
      have hj0 : 4 * (r : Int) + (k : Int) = (j : Int) := by omega
      have hj1 : (0 : Int) ≤ (j : Int) := by omega
      have hj2 : (j : Int) < 60 := by omega
      have hrm : ((F.drop (16 * r)).take (4 * k)).length + (wd F j).length ≤ 1000000000 := by rw [HWL.out, List.length_take]; omega
      clear hj hB
      go_wp2_with (at_builtin; refine wpList_app _ rfl (.tmp 11) (.tmp 18) rfl w.heap.size _ _ rfl ho p m q (wd F j) rfl hB' hrm hb.size ?_; intro v2 w2 ho2 hb2)
      go_roundw
      case rel => exact ⟨k + 1, by omega, by go_num, by rw [← HS.out]; exact ho2, hb.trans hb2⟩
      case measure => simp [intOf]; omega
    · obtain rfl : k = 4 := by omega
      go_wp2
      go_ret
      exact Gives.mk ho hb

theorem map16_step (f : Nat → UInt8) {k : Nat} (h : k < 16) : ((List.range 16).map f).take (k + 1) = ((List.range 16).map f).take k ++ [f k] := by
  rw [take_snoc (by simp; exact h)]
  simp
theorem map16_room (f : Nat → UInt8) (k : Nat) (x : UInt8) : (((List.range 16).map f).take k).length + [x].length ≤ 1000000000 := take_room (n := 16) (by simp) (by omega) k x

set_option maxHeartbeats 2000000 in
theorem rShifted (w : World) {a a' : Option Addr} {c c' : Nat} {b : List UInt8} (hX : Bs w a 256 c boxT) (hb : Bs w a' 16 c' b) :
    Calls Tryz.prog 82 #[.slice a 256 c, .slice a' 16 c'] w (Gives w (shf b)) := by
  obtain ⟨x, o, rfl, hx, hc⟩ := hX.at (by omega)
  obtain ⟨y, q, rfl, hy, hd⟩ := hb.at (by omega)
  have HB : Hid (b.length = 16) := hb.len
  clear hX hb
  go_enter Tryz.func82, Tryz.ntmps82
  go_wp2_with fail
  go_loopw [5, 6, 7] (fun v i _ wr => ∃ k : Nat, k ≤ 4 ∧ i = .int .i64 k ∧ Own wr w.heap.size v ((shf b).take (4 * k)) ∧ Below w.heap.size w wr) (fun _ i _ _ => 4 - (intOf i).toNat)
  case atStart => exact ⟨0, by omega, rfl, Own.nil _ _, Below.refl _ _⟩
  case round =>
    obtain ⟨k, hk, rfl, ho, hbl⟩ := hrel
    rename World => wo
    by_cases hlt : k < 4
    · have k0 : (0 : Int) ≤ (k : Int) := by omega
      have k4 : (k : Int) < 4 := by omega
      go_wp2_with fail
      go_loopw [5, 7] (fun v i wr => ∃ j : Nat, j ≤ 4 ∧ i = .int .i64 j ∧ Own wr w.heap.size v ((shf b).take (4 * k + j)) ∧ Below w.heap.size w wr) (fun _ i _ => 4 - (intOf i).toNat)
      case atStart => exact ⟨0, by omega, rfl, ho, hbl⟩
      case round =>
        clear ho hbl
        obtain ⟨j, hj, rfl, ho, hbl⟩ := hrel
        by_cases hjl : j < 4
        · have j0 : (0 : Int) ≤ (j : Int) := by omega
          have j4 : (j : Int) < 4 := by omega
          obtain ⟨m, hm⟩ : ∃ m, m = (k + j) % 4 := ⟨_, rfl⟩
          have m0 : ((k : Int) + (j : Int)) % 4 = (m : Int) := by omega
          have m1 : ((k : Int) + (j : Int)).tmod 4 = (m : Int) := by rw [Int.tmod_eq_emod_of_nonneg (by omega)]; omega
          obtain ⟨n, hn⟩ : ∃ n, n = 4 * m + j := ⟨_, rfl⟩
          have n0 : 4 * (m : Int) + (j : Int) = (n : Int) := by omega
          have n1 : (0 : Int) ≤ (n : Int) := by omega
          have n2 : (n : Int) < 16 := by omega
          have HS := map16_step (fun i => box (b.getD ((i + i % 4 * 4) % 16) 0)) (k := 4 * k + j) (by omega)
          rw [show (4 * k + j + (4 * k + j) % 4 * 4) % 16 = n from by omega] at HS
          have c1 : wr.cell? ⟨y, q + n, none⟩ = some (.int .u8 (bt b n)) := by rw [hbl.cell (p := ⟨y, q + n, none⟩) hy]; exact hd n (by omega)
          unfold bt at c1
          generalize b.getD n 0 = p at c1 HS
          have hpl := b_lt p
          have hp0 : (0 : Int) ≤ (p.toNat : Int) := by omega
          have hp1 : (p.toNat : Int) < 256 := by omega
          have c2 : wr.cell? ⟨x, o + p.toNat, none⟩ = some (.int .u8 ((box p).toNat : Int)) := by rw [hbl.cell (p := ⟨x, o + p.toNat, none⟩) hx, hc p.toNat hpl, box_at]
          generalize box p = z at c2 HS
          have HS' : Hid (_ = _) := HS
          have q0 : (0 : Int) ≤ (z.toNat : Int) := by omega
          have q1 := u8_hi z
          have E1 : Hid (UInt8.ofNat (z.toNat : Int).toNat = z) := one_u8 z
          have hrm : ((shf b).take (4 * k + j)).length + [UInt8.ofNat (z.toNat : Int).toNat].length ≤ 1000000000 := map16_room _ _ _
          have hs := hbl.size
          clear HS hm hn
          go_wp2_with (at_builtin; refine wpList_app _ rfl (.tmp 16) (.tmp 30) rfl w.heap.size _ _ rfl (ho.below (below_alloc _ _) (Nat.le_refl _)) _ 1 1 [UInt8.ofNat (z.toNat : Int).toNat] rfl (Bs.one _ _ q0 q1) hrm (by simp; omega) ?_; intro v2 w2 ho2 hb2)
          go_roundw
          case rel => exact ⟨j + 1, by omega, by go_num, by rw [← Nat.add_assoc, shf, HS'.out, ← E1.out]; exact ho2, (hbl.alloc hs _).trans hb2⟩
          case measure => simp [intOf]; omega
        · obtain rfl : j = 4 := by omega
          go_wp2_with fail
          go_roundw
          case rel => exact ⟨k + 1, by omega, by go_num, by rw [show 4 * (k + 1) = 4 * k + 4 from by omega]; exact ho, hbl⟩
          case measure => simp [intOf]; omega
    · obtain rfl : k = 4 := by omega
      rw [List.take_of_length_le (by rw [shf_length]; omega)] at ho
      go_wp2
      go_ret
      exact Gives.mk ho hbl

end Go.Proofs.YtfknplcnfpincaaGreat

/-
  The contract of the reference's mixed. Condition: a block of 16 bytes.
-/
namespace Go.Proofs.YtfknplcnfpincaaGreat
open Go.RowKit

/-- Multiplied, by a number as the program has it. -/
def tmsI (x : UInt8) (z : Int) : UInt8 := tms x (UInt8.ofNat z.toNat)
theorem rTimesI (w : World) (x : UInt8) (z : Int) (h : 0 ≤ z ∧ z ≤ 255) :
    Calls Tryz.prog 78 #[.int .u8 (x.toNat : Int), .int .u8 z] w fun e w' => e = .returned (.int .u8 ((tmsI x z).toNat : Int)) ∧ w' = w := by
  have := rTimes w x (UInt8.ofNat z.toNat)
  rw [ofNat_toNat_int z h.1 h.2] at this
  exact this.mono fun _ _ ⟨h1, h2⟩ => ⟨h1, h2.symm⟩
theorem times2 (x : UInt8) : tmsI x 2 = dbl x := by
  have h : ∀ n : Fin 256, tmsI (UInt8.ofNat n.val) 2 = dbl (UInt8.ofNat n.val) := by decide +kernel
  have := h ⟨x.toNat, UInt8.toNat_lt x⟩
  simpa using this
theorem times3 (x : UInt8) : tmsI x 3 = x ^^^ dbl x := by
  have h : ∀ n : Fin 256, tmsI (UInt8.ofNat n.val) 3 = UInt8.ofNat n.val ^^^ dbl (UInt8.ofNat n.val) := by decide +kernel
  have := h ⟨x.toNat, UInt8.toNat_lt x⟩
  simpa using this
theorem mix_ref (p q r s : UInt8) : tmsI p 2 ^^^ tmsI q 3 ^^^ r ^^^ s = dbl (p ^^^ q) ^^^ q ^^^ r ^^^ s := by
  rw [times2, times3, dbl_add, UInt8.xor_assoc (dbl p) (dbl q) q, UInt8.xor_comm (dbl q) q]

theorem mod4 (j d : Nat) : ((j : Int) + (d : Int)).tmod 4 = (((j + d) % 4 : Nat) : Int) := by
  rw [Int.tmod_eq_emod_of_nonneg (by omega)]
  omega
theorem mix_idx (b : List UInt8) {k j : Nat} (hk : k < 4) (hj : j < 4) : ∃ t m1 m2 m3 n0 n1 n2 n3 : Nat, 4 * (k : Int) = (t : Int) ∧
    ((j : Int) + 1).tmod 4 = (m1 : Int) ∧ ((j : Int) + 2).tmod 4 = (m2 : Int) ∧ ((j : Int) + 3).tmod 4 = (m3 : Int) ∧ ((j : Int) + 1) % 4 = (m1 : Int) ∧ ((j : Int) + 2) % 4 = (m2 : Int) ∧ ((j : Int) + 3) % 4 = (m3 : Int) ∧
    IntKind.i64.wrap ((t : Int) + (j : Int)) = (n0 : Int) ∧ IntKind.i64.wrap ((t : Int) + (m1 : Int)) = (n1 : Int) ∧ IntKind.i64.wrap ((t : Int) + (m2 : Int)) = (n2 : Int) ∧ IntKind.i64.wrap ((t : Int) + (m3 : Int)) = (n3 : Int) ∧
    IntKind.i64.wrap ((j : Int) + 1) = (j : Int) + 1 ∧ IntKind.i64.wrap ((j : Int) + 2) = (j : Int) + 2 ∧ IntKind.i64.wrap ((j : Int) + 3) = (j : Int) + 3 ∧
    (0 : Int) ≤ (n0 : Int) ∧ (0 : Int) ≤ (n1 : Int) ∧ (0 : Int) ≤ (n2 : Int) ∧ (0 : Int) ≤ (n3 : Int) ∧ (n0 : Int) < 16 ∧ (n1 : Int) < 16 ∧ (n2 : Int) < 16 ∧ (n3 : Int) < 16 ∧
    mixAt b (4 * k + j) = tmsI (b.getD n0 0) 2 ^^^ tmsI (b.getD n1 0) 3 ^^^ b.getD n2 0 ^^^ b.getD n3 0 := by
  refine ⟨4 * k, (j + 1) % 4, (j + 2) % 4, (j + 3) % 4, 4 * k + j, 4 * k + (j + 1) % 4, 4 * k + (j + 2) % 4, 4 * k + (j + 3) % 4, by omega, mod4 j 1, mod4 j 2, mod4 j 3, by omega, by omega, by omega, ?_, ?_, ?_, ?_, ?_, ?_, ?_, by omega, by omega, by omega, by omega, by omega, by omega, by omega, by omega, ?_⟩
  · rw [IntKind.wrap_i64]; omega
  · rw [IntKind.wrap_i64]; omega
  · rw [IntKind.wrap_i64]; omega
  · rw [IntKind.wrap_i64]; omega
  · rw [IntKind.wrap_i64]; omega
  · rw [IntKind.wrap_i64]; omega
  · rw [IntKind.wrap_i64]; omega
  · rw [mix_ref]
    unfold mixAt
    rw [show (4 * k + j) / 4 * 4 + (4 * k + j) % 4 = 4 * k + j from by omega, show (4 * k + j) / 4 * 4 + (4 * k + j + 1) % 4 = 4 * k + (j + 1) % 4 from by omega, show (4 * k + j) / 4 * 4 + (4 * k + j + 2) % 4 = 4 * k + (j + 2) % 4 from by omega, show (4 * k + j) / 4 * 4 + (4 * k + j + 3) % 4 = 4 * k + (j + 3) % 4 from by omega]

set_option maxRecDepth 100000 in
set_option maxHeartbeats 2000000 in
theorem rMixed (w : World) {a' : Option Addr} {c' : Nat} {b : List UInt8} (hb : Bs w a' 16 c' b) :
    Calls Tryz.prog 81 #[.slice a' 16 c'] w (Gives w (mixL b)) := by
  obtain ⟨y, q, rfl, hy, hd⟩ := hb.at (by omega)
  clear hb
  go_enter Tryz.func81, Tryz.ntmps81
  go_wp2_with fail
  go_loopw [3, 4, 5, 6, 7] (fun v i _ _ _ wr => ∃ k : Nat, k ≤ 4 ∧ i = .int .i64 k ∧ Own wr w.heap.size v ((mixL b).take (4 * k)) ∧ Below w.heap.size w wr) (fun _ i _ _ _ _ => 4 - (intOf i).toNat)
  case atStart => exact ⟨0, by omega, rfl, Own.nil _ _, Below.refl _ _⟩
  case round =>
    obtain ⟨k, hk, rfl, ho, hbl⟩ := hrel
    rename World => wo
    by_cases hlt : k < 4
    · have k0 : (0 : Int) ≤ (k : Int) := by omega
      have k4 : (k : Int) < 4 := by omega
      go_wp2_with fail
      go_loopw [3, 5, 6, 7] (fun v i _ _ wr => ∃ j : Nat, j ≤ 4 ∧ i = .int .i64 j ∧ Own wr w.heap.size v ((mixL b).take (4 * k + j)) ∧ Below w.heap.size w wr) (fun _ i _ _ _ => 4 - (intOf i).toNat)
      case atStart => exact ⟨0, by omega, rfl, ho, hbl⟩
      case round =>
        clear ho hbl
        obtain ⟨j, hj, rfl, ho, hbl⟩ := hrel
        by_cases hjl : j < 4
        · have j0 : (0 : Int) ≤ (j : Int) := by omega
          have j4 : (j : Int) < 4 := by omega
          obtain ⟨t, m1, m2, m3, n0, n1, n2, n3, t0, r1, r2, r3, e1, e2, e3, u0, u1, u2, u3, v1, v2, v3, x0, x1, x2, x3, y0, y1, y2, y3, HM⟩ := mix_idx b hlt hjl
          have HS := map16_step (mixAt b) (k := 4 * k + j) (by omega)
          rw [HM] at HS
          clear HM
          have cell : ∀ n, n < 16 → wr.cell? ⟨y, q + n, none⟩ = some (.int .u8 ((b.getD n 0).toNat : Int)) := fun n hn => by rw [hbl.cell (p := ⟨y, q + n, none⟩) hy]; exact hd n hn
          have c0 := cell n0 (Int.ofNat_lt.1 y0)
          have c1 := cell n1 (Int.ofNat_lt.1 y1)
          have c2 := cell n2 (Int.ofNat_lt.1 y2)
          have c3 := cell n3 (Int.ofNat_lt.1 y3)
          clear cell
          generalize b.getD n0 0 = p0 at c0 HS
          generalize b.getD n1 0 = p1 at c1 HS
          generalize b.getD n2 0 = p2 at c2 HS
          generalize b.getD n3 0 = p3 at c3 HS
          have z1 := xor_u8 (tmsI p0 2) (tmsI p1 3)
          generalize tmsI p0 2 ^^^ tmsI p1 3 = g1 at z1 HS
          have z2 := xor_u8 g1 p2
          generalize g1 ^^^ p2 = g2 at z2 HS
          have z3 := xor_u8 g2 p3
          generalize g2 ^^^ p3 = g3 at z3 HS
          have HS' : Hid (_ = _) := HS
          have q0 : (0 : Int) ≤ (g3.toNat : Int) := by omega
          have q1 := u8_hi g3
          have E1 : Hid (UInt8.ofNat (g3.toNat : Int).toNat = g3) := one_u8 g3
          have hrm : ((mixL b).take (4 * k + j)).length + [UInt8.ofNat (g3.toNat : Int).toNat].length ≤ 1000000000 := map16_room _ _ _
          clear HS
          go_wp2_with fail
          go_quiet ((go_at_call 78; exact Calls.quiet_of_same (rTimesI _ _ _ (by decide))))
          generalize hw1 : wr.drewN _ = w1
          have hb1 : Below w.heap.size w w1 := by rw [← hw1]; exact below_drN hbl _
          have ho1 := ho.drN nq
          rw [hw1] at ho1
          have hs1 := hb1.size
          clear hw1 ho hbl c0 c1 c2 c3
          go_wp2_with (at_builtin; refine wpList_app _ rfl (.tmp 53) (.tmp 55) rfl w.heap.size _ _ rfl (ho1.below (below_alloc _ _) (Nat.le_refl _)) _ 1 1 [UInt8.ofNat (g3.toNat : Int).toNat] rfl (Bs.one _ _ q0 q1) hrm (by simp; omega) ?_; intro v2' w2 ho2 hb2)
          go_roundw
          case rel => exact ⟨j + 1, by omega, by go_num, by rw [← Nat.add_assoc, mixL, HS'.out, ← E1.out]; exact ho2, (hb1.alloc hs1 _).trans hb2⟩
          case measure => simp [intOf]; omega
        · obtain rfl : j = 4 := by omega
          go_wp2_with fail
          go_roundw
          case rel => exact ⟨k + 1, by omega, by go_num, by rw [show 4 * (k + 1) = 4 * k + 4 from by omega]; exact ho, hbl⟩
          case measure => simp [intOf]; omega
    · obtain rfl : k = 4 := by omega
      rw [List.take_of_length_le (by rw [mixL_length]; omega)] at ho
      go_wp2
      go_ret
      exact Gives.mk ho hbl

end Go.Proofs.YtfknplcnfpincaaGreat

/-
  The contract of the reference's Words: the words of all rounds' keys. Condition: a key of 32 bytes; the box of all bytes lies where the slice leads.
-/
namespace Go.Proofs.YtfknplcnfpincaaGreat
open Go.RowKit

/-- A slice that lies in old memory, or in a block of bytes. -/
def Bytes5 (w : World) (base : Nat) (p : Option Addr) : Prop := ∀ x, p = some x → x.block < w.heap.size ∧ (x.block < base ∨ ∃ cur f, w.heap[x.block]? = some (.cells cur 5 f))
/-- The slices vs hold the words of F, each in old memory, or in a block of bytes. -/
def WordsIn (w : World) (base : Nat) (F : List UInt8) (vs : List Value) : Prop := ∀ i, i < vs.length → ∃ p q, vs[i]? = some (.slice p 4 q) ∧ Bs w p 4 q (wd F i) ∧ Bytes5 w base p

theorem Bytes5.below {w w' : World} {base : Nat} {p : Option Addr} (h : Bytes5 w base p) (hb : Below w.heap.size w w') : Bytes5 w' base p := fun x hx => by
  obtain ⟨h1, h2⟩ := h x hx
  refine ⟨Nat.lt_of_lt_of_le h1 hb.size, ?_⟩
  rcases h2 with h2 | ⟨cur, f, h2⟩
  · exact Or.inl h2
  · exact Or.inr ⟨cur, f, by rw [hb.block _ h1]; exact h2⟩
theorem WordsIn.below {w w' : World} {base : Nat} {F : List UInt8} {vs : List Value} (h : WordsIn w base F vs) (hb : Below w.heap.size w w') : WordsIn w' base F vs := fun i hi => by
  obtain ⟨p, q, e, hB, h5⟩ := h i hi
  exact ⟨p, q, e, hB.below hb (Nat.le_refl _), h5.below hb⟩
theorem OwnV.not5 {w : World} {base : Nat} {v : Value} {vs : List Value} (h : OwnV w base v vs) {p : Option Addr} (h5 : Bytes5 w base p) (x : Addr) (hx : p = some x) : v.ownBlock ≠ some x.block := fun e => by
  obtain ⟨h1, h2⟩ := h5 x hx
  rcases h2 with h2 | ⟨cur, f, h2⟩
  · have := h.size _ e
    omega
  · rcases h.2 with ⟨rfl, _⟩ | ⟨g, cap, cur', rfl, _, hg, _⟩
    · simp [Value.ownBlock] at e
    · simp only [Value.ownBlock, Option.some.injEq] at e
      rw [e, h2] at hg
      simp only [Option.some.injEq, Obj.cells.injEq] at hg
      exact absurd hg.2.1 (by decide)
theorem Bs.grownV {w w' : World} {r : Option Nat} {a : Option Addr} {n c : Nat} {l : List UInt8} (h : Bs w a n c l) (hg : w.grownBy w' r) (hr : ∀ x, a = some x → r ≠ some x.block) : Bs w' a n c l := by
  refine ⟨h.1, h.2.1, h.2.2.1, h.2.2.2.1, fun i hi => ?_⟩
  obtain ⟨b, o, ha, hc⟩ := h.2.2.2.2 i hi
  exact ⟨b, o, ha, hg.cell hc (fun e => hr _ ha e.symm)⟩
theorem Bytes5.grown {w w' : World} {base : Nat} {r : Option Nat} {p : Option Addr} (h : Bytes5 w base p) (hg : w.grownBy w' r) (hr : ∀ x, p = some x → r ≠ some x.block) : Bytes5 w' base p := fun x hx => by
  obtain ⟨h1, h2⟩ := h x hx
  refine ⟨Nat.lt_of_lt_of_le h1 hg.size, ?_⟩
  rcases h2 with h2 | ⟨cur, f, h2⟩
  · exact Or.inl h2
  · exact Or.inr ⟨cur, f, by rw [hg.block _ h1 (fun e => hr x hx e.symm)]; exact h2⟩
/-- One more word. -/
theorem WordsIn.snoc {w w' : World} {base : Nat} {F : List UInt8} {v : Value} {vs : List Value} {p : Option Addr} {q : Nat} (h : WordsIn w base F vs) (ho : OwnV w base v vs) (hg : w.grownBy w' v.ownBlock) (hB : Bs w p 4 q (wd F vs.length)) (h5 : Bytes5 w base p) : WordsIn w' base F (vs ++ [.slice p 4 q]) := fun i hi => by
  by_cases hlt : i < vs.length
  · obtain ⟨p', q', e, hB', h5'⟩ := h i hlt
    refine ⟨p', q', by rw [List.getElem?_append_left hlt]; exact e, hB'.grownV hg (ho.not5 h5'), h5'.grown hg (ho.not5 h5')⟩
  · have e : i = vs.length := by simp at hi; omega
    subst e
    exact ⟨p, q, by simp, hB.grownV hg (ho.not5 h5), h5.grown hg (ho.not5 h5)⟩
theorem Own.bytes5 {w : World} {b base : Nat} {p : Option Addr} {m q : Nat} {l : List UInt8} (h : Own w b (.slice p m q) l) : Bytes5 w base p := fun x hx => by
  subst hx
  refine ⟨(World.ownsRow.lt h _ rfl).2, ?_⟩
  rcases h.2 with ⟨e, _⟩ | ⟨g, cap, cur, e, _, hg, _⟩
  · simp at e
  · simp only [Value.slice.injEq, Option.some.injEq] at e
    obtain ⟨rfl, _, _⟩ := e
    exact Or.inr ⟨cur, (0, 0), hg⟩
/-- Slices of slices that are owned begin somewhere. -/
theorem OwnV.at {w : World} {base : Nat} {v : Value} {vs : List Value} (h : OwnV w base v vs) (hn : 0 < vs.length) : ∃ g cap, v = .slice (some ⟨g, 0, none⟩) vs.length cap ∧ ∀ i, i < vs.length → w.cell? ⟨g, i, none⟩ = vs[i]? := by
  have h' := h
  rcases h.2 with ⟨_, h0⟩ | ⟨g, cap, cur, rfl, _, _, _⟩
  · omega
  · refine ⟨g, cap, rfl, fun i hi => ?_⟩
    have := World.ownsRow.cellAt h' i (by omega)
    simpa using this
theorem WordsIn.bss {w : World} {base : Nat} {F : List UInt8} {v : Value} {vs : List Value} (h : WordsIn w base F vs) (ho : OwnV w base v vs) (hl : vs.length = 60) : ∃ a c, v = .slice a 60 c ∧ Bss w a 60 c (wdsL F) := by
  obtain ⟨a, c, hv, hB⟩ := ho.bss (ls := wdsL F) (by rw [hl]; simp [wdsL]) (fun i hi => by
    obtain ⟨p, q, e, hB, _⟩ := h i hi
    exact ⟨p, 4, q, e, by rw [wdsL_at F (by omega)]; exact hB⟩)
  rw [hl] at hv hB
  exact ⟨a, c, hv, hB⟩

theorem map4 (f : UInt8 → UInt8) {X : List UInt8} (h : X.length = 4) : X.map f = [f (X.getD 0 0), f (X.getD 1 0), f (X.getD 2 0), f (X.getD 3 0)] := by
  obtain ⟨a, b, c, d, rfl⟩ := len4 h
  rfl

set_option maxRecDepth 100000 in
set_option maxHeartbeats 4000000 in
theorem rWordsA (w : World) {a a' : Option Addr} {c c' : Nat} {key : List UInt8} (hX : Bs w a 256 c boxT) (hk : Bs w a' 32 c' key) :
    Calls Tryz.prog 63 #[.slice a 256 c, .slice a' 32 c'] w fun e w' => ∃ p q, e = .returned (.slice p 60 q) ∧ Bss w' p 60 q (wdsL (keyF key)) ∧ Below w.heap.size w w' := by
  have hkl := hk.len
  have HF : Hid ((keyF key).length = 240) := keyF_length hkl
  have HLow : Hid (∀ i, i < 8 → wd (keyF key) i = wd key i) := fun i hi => wd_low hkl hi
  have HHigh : Hid (∀ i, i < 60 → 8 ≤ i → wd (keyF key) i = xorL (wd (keyF key) (i - 8)) (tmpW (wd (keyF key) (i - 1)) i)) := fun i hi h8 => wd_high hkl hi h8
  generalize hF : keyF key = F at *
  clear hF
  obtain ⟨bx, ox, rfl, hx, hc⟩ := hX.at (by omega)
  go_enter Tryz.func63, Tryz.ntmps63
  go_wp2_with fail
  go_loopw [5, 6] (fun v i wr => ∃ (k : Nat) (vs : List Value), k ≤ 8 ∧ i = .int .i64 k ∧ vs.length = k ∧ OwnV wr w.heap.size v vs ∧ WordsIn wr w.heap.size F vs ∧ Below w.heap.size w wr) (fun _ i _ => 8 - (intOf i).toNat)
  case atStart => exact ⟨0, [], by omega, rfl, rfl, World.ownsRow_nil _ _ _ _, fun i hi => by simp at hi, Below.refl _ _⟩
  case round =>
    obtain ⟨k, vs, hk8, rfl, hvl, ho, hW, hb⟩ := hrel
    by_cases hlt : k < 8
    · have k0 : (0 : Int) ≤ (k : Int) := by omega
      have k8 : (k : Int) < 8 := by omega
      obtain ⟨p, q, hcut, hB⟩ := hk.cut2 (4 * k) (4 * k + 4) (by omega) (by omega)
      rw [show 4 * k + 4 - 4 * k = 4 from by omega] at hcut hB
      rw [show ((4 * k : Nat) : Int) = 4 * (k : Int) from by omega, show ((4 * k + 4 : Nat) : Int) = 4 * (k : Int) + 4 from by omega] at hcut
      have hBw : Bs w p 4 q (wd F k) := by rw [HLow.out k hlt]; exact hB w hk
      have h5 : Bytes5 wr w.heap.size p := fun x hx => by
        obtain ⟨b', o', e, hl', _⟩ := hBw.at (by omega)
        rw [e] at hx
        simp only [Option.some.injEq] at hx
        subst hx
        exact ⟨Nat.lt_of_lt_of_le hl' hb.size, Or.inl hl'⟩
      have HVL : Hid (vs.length = k) := hvl
      have hs := hb.size
      have hq := hb.alloc hs (.cells #[.slice p 4 q] 22)
      clear hB hvl
      go_wp2_with (at_builtin; go_must (refine wpList_vapp (wr.alloc (.cells #[.slice p 4 q] 22)) rfl (.tmp 14) (.tmp 22) rfl w.heap.size _ vs rfl (ho.below (below_alloc _ _) (Nat.le_refl _)) (some ⟨wr.heap.size, 0, none⟩) 1 1 [.slice p 4 q] rfl rfl (one_cell wr _ _) one_one (by have := HVL.out; simp; omega) (by simp; omega) ?_); intro v2 w2 ho2 hg2)
      go_roundw
      case rel =>
        have ho1 := ho.below (below_alloc wr (.cells #[.slice p 4 q] 22)) (Nat.le_refl _)
        refine ⟨k + 1, vs ++ [.slice p 4 q], by omega, by go_num, by have := HVL.out; simp; omega, ho2, ?_, hq.grown hg2 (by simp; omega) (fun j hj => ho1.size j hj)⟩
        refine (hW.below (below_alloc _ _)).snoc ho1 hg2 ?_ (h5.below (below_alloc _ _))
        rw [HVL.out]
        exact hBw.below hq (Nat.le_refl _)
      case measure => simp [intOf]; omega
    · obtain rfl : k = 8 := by omega
      go_wp2_with fail
      go_loopw [5, 7, 8, 9] (fun v r i _ wr => ∃ (k : Nat) (vs : List Value), 8 ≤ k ∧ k ≤ 60 ∧ i = .int .i64 k ∧ r = .int .u8 ((dpow ((k - 1) / 8)).toNat : Int) ∧ vs.length = k ∧ OwnV wr w.heap.size v vs ∧ WordsIn wr w.heap.size F vs ∧ Below w.heap.size w wr) (fun _ _ i _ _ => 60 - (intOf i).toNat)
      case atStart => exact ⟨8, vs, by omega, by omega, rfl, rfl, hvl, ho, hW, hb⟩
      case round =>
        clear ho hW hb hvl hk8 hlt vs
        obtain ⟨k, vs, hk8, hk60, rfl, rfl, hvl, ho, hW, hb⟩ := hrel
        by_cases hlt : k < 60
        · have h0 : (0 : Int) ≤ (k : Int) := by omega
          have h8 : (8 : Int) ≤ (k : Int) := by omega
          have h60 : (k : Int) < 60 := by omega
          obtain ⟨g, cap, hv, hcell⟩ := ho.at (by omega)
          rw [hvl] at hv hcell
          subst hv
          obtain ⟨p1, q1, e1, hB1, _⟩ := hW (k - 1) (by omega)
          obtain ⟨p8, q8, e8, hB8, _⟩ := hW (k - 8) (by omega)
          have c1 := hcell (k - 1) (by omega)
          have c8 := hcell (k - 8) (by omega)
          rw [e1] at c1
          rw [e8] at c8
          clear hcell e1 e8
          have HVL : Hid (vs.length = k) := hvl
          clear hvl
          have HX : Hid ((wd F (k - 1)).length = 4) := hB1.len
          have HHi : Hid (wd F k = xorL (wd F (k - 8)) (tmpW (wd F (k - 1)) k)) := HHigh.out k hlt hk8
          have HX4 : Hid ((xorL (wd F (k - 8)) (tmpW (wd F (k - 1)) k)).length = 4) := by show _ = _; rw [← HHi.out]; exact wd_length (by have := HF.out; omega)
          obtain ⟨m, hm⟩ : ∃ m, m = k % 8 := ⟨_, rfl⟩
          have HM : Hid (m = k % 8) := hm
          have hm0 : (k : Int) % 8 = (m : Int) := by omega
          have hm1 : (k : Int).tmod 8 = (m : Int) := by rw [Int.tmod_eq_emod_of_nonneg (by omega)]; omega
          clear hm
          generalize hX' : wd F (k - 1) = X at *
          clear hX'
          obtain ⟨P, hP⟩ : ∃ P, P = dpow ((k - 1) / 8) := ⟨_, rfl⟩
          rw [← hP]
          have HP : Hid (P = dpow ((k - 1) / 8)) := hP
          clear hP
          by_cases hz : m = 0
          · have HK : Hid (k % 8 = 0) := by show _ = _; rw [← HM.out]; exact hz
            subst hz
            have HPN : Hid (dbl P = dpow (k / 8)) := by show _ = _; rw [HP.out]; exact pow_up hk8 HK.out
            have HE0 : tmpW X k = [box (X.getD 1 0) ^^^ P, box (X.getD 2 0), box (X.getD 3 0), box (X.getD 0 0)] := by unfold tmpW; rw [if_pos HK.out, HP.out]
            obtain ⟨b1, o1, rfl, hb1l, hcx⟩ := hB1.at (by omega)
            have x0c : wr.cell? ⟨b1, o1, none⟩ = some (.int .u8 (bt X 0)) := hcx 0 (by omega)
            have x1c := hcx 1 (by omega)
            have x2c := hcx 2 (by omega)
            have x3c := hcx 3 (by omega)
            have bxc : ∀ z : UInt8, wr.cell? ⟨bx, ox + z.toNat, none⟩ = some (.int .u8 ((box z).toNat : Int)) := fun z => by rw [hb.cell (p := ⟨bx, ox + z.toNat, none⟩) hx, hc z.toNat (b_lt z), box_at]
            unfold bt at x0c x1c x2c x3c
            generalize X.getD 0 0 = x0 at *
            generalize X.getD 1 0 = x1 at *
            generalize X.getD 2 0 = x2 at *
            generalize X.getD 3 0 = x3 at *
            have y0c := bxc x0
            have y1c := bxc x1
            have y2c := bxc x2
            have y3c := bxc x3
            have l0 : (x0.toNat : Int) < 256 := by have := b_lt x0; omega
            have l1 : (x1.toNat : Int) < 256 := by have := b_lt x1; omega
            have l2 : (x2.toNat : Int) < 256 := by have := b_lt x2; omega
            have l3 : (x3.toNat : Int) < 256 := by have := b_lt x3; omega
            generalize box x0 = y0 at *
            generalize box x1 = y1 at *
            generalize box x2 = y2 at *
            generalize box x3 = y3 at *
            clear bxc hcx hB1
            have xo := xor_u8 y1 P
            generalize y1 ^^^ P = y5 at *
            have HE : Hid (tmpW X k = [y5, y2, y3, y0]) := HE0
            have CT : Hid (∀ w, Calls Tryz.prog 78 #[.int .u8 (P.toNat : Int), .int .u8 2] w fun e w' => e = .returned (.int .u8 ((dbl P).toNat : Int)) ∧ w = w') := fun w => by have := rTimesI w P 2 (by decide); rw [times2] at this; exact this.mono fun _ _ ⟨h1, h2⟩ => ⟨h1, h2.symm⟩
            clear HE0
            go_wp2_with fail
            go_region_held3 (fun w' => w'.cell? ⟨b1, o1, none⟩ = some (.int .u8 (x0.toNat : Int)) ∧ w'.cell? ⟨b1, o1 + 1, none⟩ = some (.int .u8 (x1.toNat : Int)) ∧ w'.cell? ⟨b1, o1 + 2, none⟩ = some (.int .u8 (x2.toNat : Int)) ∧ w'.cell? ⟨b1, o1 + 3, none⟩ = some (.int .u8 (x3.toNat : Int)) ∧ w'.cell? ⟨bx, ox + x0.toNat, none⟩ = some (.int .u8 (y0.toNat : Int)) ∧ w'.cell? ⟨bx, ox + x1.toNat, none⟩ = some (.int .u8 (y1.toNat : Int)) ∧ w'.cell? ⟨bx, ox + x2.toNat, none⟩ = some (.int .u8 (y2.toNat : Int)) ∧ w'.cell? ⟨bx, ox + x3.toNat, none⟩ = some (.int .u8 (y3.toNat : Int))) (first | assumption | (refine ⟨?_, ?_, ?_, ?_, ?_, ?_, ?_, ?_⟩ <;> assumption) | go_keep) (fail)
            obtain ⟨W1, hW1⟩ : ∃ W1, W1 = (wr.alloc (.cells #[.int .u8 (y5.toNat : Int), .int .u8 (y2.toNat : Int), .int .u8 (y3.toNat : Int), .int .u8 (y0.toNat : Int)] 5)).drew := ⟨_, rfl⟩
            rw [← hW1]
            have hbw : Below wr.heap.size wr W1 := by rw [hW1]; exact (below_alloc _ _).drew
            have hB9 : Bs W1 (some ⟨wr.heap.size, 0, none⟩) 4 4 (tmpW X k) := by rw [hW1, HE.out]; exact (Bs.made wr [y5, y2, y3, y0] _ rfl (by simp)).drew
            have hB8t := hB8.below hbw (Nat.le_refl _)
            have hot := ho.below hbw (Nat.le_refl _)
            have hWt := hW.below hbw
            have hbt := hb.trans (hbw.mono hb.size)
            have c8t : W1.cell? ⟨g, k - 8, none⟩ = some (.slice p8 4 q8) := (hbw.cell (p := ⟨g, k - 8, none⟩) (lt_of_cell c8)).trans c8
            clear hW1 ho hW hb hB8 c1 c8 x0c x1c x2c x3c y0c y1c y2c y3c
            go_wp2_with (first
              | (go_at_call 78; go_must (refine (CT.out W1).mono ?_); rintro e wt ⟨rfl, rfl⟩)
              | (go_at_call 79; go_must (refine (rBoth W1 hB8t hB9 (by omega) (by omega)).mono ?_); rintro e wu ⟨au, mu, cu, rfl, hou, hbu⟩; have hBu := hou.toBs; have hmu : mu = 4 := by rw [← hBu.len]; exact HX4.out
                 subst hmu; have hou1 := hot.below hbu (Nat.le_refl _); have hqu := hbt.trans (hbu.mono hbt.size); have hsu := hqu.size)
              | (at_builtin; go_must (refine wpList_vapp (wu.alloc (.cells #[.slice au 4 cu] 22)) rfl (.tmp 93) (.tmp 101) rfl w.heap.size _ vs rfl (hou1.below (below_alloc _ _) (Nat.le_refl _)) (some ⟨wu.heap.size, 0, none⟩) 1 1 [.slice au 4 cu] rfl rfl (one_cell wu _ _) one_one (by have := HVL.out; simp; omega) (by simp; omega) ?_); intro v2 w2 ho2 hg2))
            go_roundw
            case rel =>
              have ho3 := hou1.below (below_alloc wu (.cells #[.slice au 4 cu] 22)) (Nat.le_refl _)
              have hq3 := hqu.alloc hsu (.cells #[.slice au 4 cu] 22)
              (repeat apply Exists.intro)
              refine ⟨?_, rfl⟩
              refine ⟨k + 1, vs ++ [.slice au 4 cu], by omega, by omega, by go_num, by rw [Nat.add_sub_cancel, ← HPN.out], by have := HVL.out; simp; omega, ho2, ?_, hq3.grown hg2 (by simp; omega) (fun j hj => ho3.size j hj)⟩
              refine ((hWt.below hbu).below (below_alloc _ _)).snoc ho3 hg2 ?_ ((hou.bytes5).below (below_alloc _ _))
              rw [HVL.out, HHi.out]
              exact hBu.below (below_alloc _ _) (Nat.le_refl _)
            case measure => simp [intOf]; omega
          · by_cases h4 : m = 4
            · have HK : Hid (k % 8 = 4) := by show _ = _; rw [← HM.out]; exact h4
              subst h4
              have HPN : Hid (P = dpow (k / 8)) := by show _ = _; rw [HP.out]; exact pow_stay (by rw [HK.out]; omega)
              have HE0 : tmpW X k = [box (X.getD 0 0), box (X.getD 1 0), box (X.getD 2 0), box (X.getD 3 0)] := by rw [← tmp_half X HK.out]; exact map4 box HX.out
              obtain ⟨b1, o1, rfl, hb1l, hcx⟩ := hB1.at (by omega)
              have x0c : wr.cell? ⟨b1, o1, none⟩ = some (.int .u8 (bt X 0)) := hcx 0 (by omega)
              have x1c := hcx 1 (by omega)
              have x2c := hcx 2 (by omega)
              have x3c := hcx 3 (by omega)
              have bxc : ∀ z : UInt8, wr.cell? ⟨bx, ox + z.toNat, none⟩ = some (.int .u8 ((box z).toNat : Int)) := fun z => by rw [hb.cell (p := ⟨bx, ox + z.toNat, none⟩) hx, hc z.toNat (b_lt z), box_at]
              unfold bt at x0c x1c x2c x3c
              generalize X.getD 0 0 = x0 at *
              generalize X.getD 1 0 = x1 at *
              generalize X.getD 2 0 = x2 at *
              generalize X.getD 3 0 = x3 at *
              have y0c := bxc x0
              have y1c := bxc x1
              have y2c := bxc x2
              have y3c := bxc x3
              have l0 : (x0.toNat : Int) < 256 := by have := b_lt x0; omega
              have l1 : (x1.toNat : Int) < 256 := by have := b_lt x1; omega
              have l2 : (x2.toNat : Int) < 256 := by have := b_lt x2; omega
              have l3 : (x3.toNat : Int) < 256 := by have := b_lt x3; omega
              generalize box x0 = y0 at *
              generalize box x1 = y1 at *
              generalize box x2 = y2 at *
              generalize box x3 = y3 at *
              clear bxc hcx hB1
              have HE : Hid (tmpW X k = [y0, y1, y2, y3]) := HE0
              clear HE0 hz
              go_wp2_with fail
              go_region_held3 (fun w' => w'.cell? ⟨b1, o1, none⟩ = some (.int .u8 (x0.toNat : Int)) ∧ w'.cell? ⟨b1, o1 + 1, none⟩ = some (.int .u8 (x1.toNat : Int)) ∧ w'.cell? ⟨b1, o1 + 2, none⟩ = some (.int .u8 (x2.toNat : Int)) ∧ w'.cell? ⟨b1, o1 + 3, none⟩ = some (.int .u8 (x3.toNat : Int)) ∧ w'.cell? ⟨bx, ox + x0.toNat, none⟩ = some (.int .u8 (y0.toNat : Int)) ∧ w'.cell? ⟨bx, ox + x1.toNat, none⟩ = some (.int .u8 (y1.toNat : Int)) ∧ w'.cell? ⟨bx, ox + x2.toNat, none⟩ = some (.int .u8 (y2.toNat : Int)) ∧ w'.cell? ⟨bx, ox + x3.toNat, none⟩ = some (.int .u8 (y3.toNat : Int))) (first | assumption | (refine ⟨?_, ?_, ?_, ?_, ?_, ?_, ?_, ?_⟩ <;> assumption) | go_keep) (fail)
              obtain ⟨W1, hW1⟩ : ∃ W1, W1 = (wr.alloc (.cells #[.int .u8 (y0.toNat : Int), .int .u8 (y1.toNat : Int), .int .u8 (y2.toNat : Int), .int .u8 (y3.toNat : Int)] 5)).drew := ⟨_, rfl⟩
              rw [← hW1]
              have hbw : Below wr.heap.size wr W1 := by rw [hW1]; exact (below_alloc _ _).drew
              have hB9 : Bs W1 (some ⟨wr.heap.size, 0, none⟩) 4 4 (tmpW X k) := by rw [hW1, HE.out]; exact (Bs.made wr [y0, y1, y2, y3] _ rfl (by simp)).drew
              have hB8t := hB8.below hbw (Nat.le_refl _)
              have hot := ho.below hbw (Nat.le_refl _)
              have hWt := hW.below hbw
              have hbt := hb.trans (hbw.mono hb.size)
              have c8t : W1.cell? ⟨g, k - 8, none⟩ = some (.slice p8 4 q8) := (hbw.cell (p := ⟨g, k - 8, none⟩) (lt_of_cell c8)).trans c8
              clear hW1 ho hW hb hB8 c1 c8 x0c x1c x2c x3c y0c y1c y2c y3c
              go_wp2_with (first
                | (go_at_call 79; go_must (refine (rBoth W1 hB8t hB9 (by omega) (by omega)).mono ?_); rintro e wu ⟨au, mu, cu, rfl, hou, hbu⟩; have hBu := hou.toBs; have hmu : mu = 4 := by rw [← hBu.len]; exact HX4.out
                   subst hmu; have hou1 := hot.below hbu (Nat.le_refl _); have hqu := hbt.trans (hbu.mono hbt.size); have hsu := hqu.size)
                | (at_builtin; go_must (refine wpList_vapp (wu.alloc (.cells #[.slice au 4 cu] 22)) rfl (.tmp 93) (.tmp 101) rfl w.heap.size _ vs rfl (hou1.below (below_alloc _ _) (Nat.le_refl _)) (some ⟨wu.heap.size, 0, none⟩) 1 1 [.slice au 4 cu] rfl rfl (one_cell wu _ _) one_one (by have := HVL.out; simp; omega) (by simp; omega) ?_); intro v2 w2 ho2 hg2))
              go_roundw
              case rel =>
                have ho3 := hou1.below (below_alloc wu (.cells #[.slice au 4 cu] 22)) (Nat.le_refl _)
                have hq3 := hqu.alloc hsu (.cells #[.slice au 4 cu] 22)
                (repeat apply Exists.intro)
                refine ⟨?_, rfl⟩
                refine ⟨k + 1, vs ++ [.slice au 4 cu], by omega, by omega, by go_num, by rw [Nat.add_sub_cancel, ← HPN.out], by have := HVL.out; simp; omega, ho2, ?_, hq3.grown hg2 (by simp; omega) (fun j hj => ho3.size j hj)⟩
                refine ((hWt.below hbu).below (below_alloc _ _)).snoc ho3 hg2 ?_ ((hou.bytes5).below (below_alloc _ _))
                rw [HVL.out, HHi.out]
                exact hBu.below (below_alloc _ _) (Nat.le_refl _)
              case measure => simp [intOf]; omega
            · have HE : Hid (X = tmpW X k) := tmp_same X (by rw [← HM.out]; exact hz) (by rw [← HM.out]; exact h4)
              have HPN : Hid (P = dpow (k / 8)) := by show _ = _; rw [HP.out]; exact pow_stay (by rw [← HM.out]; exact hz)
              have z0 : ((m : Int) == 0) = false := by simp; omega
              have z4 : ((m : Int) == 4) = false := by simp; omega
              have hB9 : Bs wr p1 4 q1 (tmpW X k) := by rw [← HE.out]; exact hB1
              have hB8t := hB8
              have hot := ho
              have hWt := hW
              have hbt := hb
              clear hz h4 hB1
              go_wp2_with (first
                | (go_at_call 79; go_must (refine (rBoth wr hB8t hB9 (by omega) (by omega)).mono ?_); rintro e wu ⟨au, mu, cu, rfl, hou, hbu⟩; have hBu := hou.toBs; have hmu : mu = 4 := by rw [← hBu.len]; exact HX4.out
                   subst hmu; have hou1 := hot.below hbu (Nat.le_refl _); have hqu := hbt.trans (hbu.mono hbt.size); have hsu := hqu.size)
                | (at_builtin; go_must (refine wpList_vapp (wu.alloc (.cells #[.slice au 4 cu] 22)) rfl (.tmp 93) (.tmp 101) rfl w.heap.size _ vs rfl (hou1.below (below_alloc _ _) (Nat.le_refl _)) (some ⟨wu.heap.size, 0, none⟩) 1 1 [.slice au 4 cu] rfl rfl (one_cell wu _ _) one_one (by have := HVL.out; simp; omega) (by simp; omega) ?_); intro v2 w2 ho2 hg2))
              go_roundw
              case rel =>
                have ho3 := hou1.below (below_alloc wu (.cells #[.slice au 4 cu] 22)) (Nat.le_refl _)
                have hq3 := hqu.alloc hsu (.cells #[.slice au 4 cu] 22)
                (repeat apply Exists.intro)
                refine ⟨?_, rfl⟩
                refine ⟨k + 1, vs ++ [.slice au 4 cu], by omega, by omega, by go_num, by rw [Nat.add_sub_cancel, ← HPN.out], by have := HVL.out; simp; omega, ho2, ?_, hq3.grown hg2 (by simp; omega) (fun j hj => ho3.size j hj)⟩
                refine ((hWt.below hbu).below (below_alloc _ _)).snoc ho3 hg2 ?_ ((hou.bytes5).below (below_alloc _ _))
                rw [HVL.out, HHi.out]
                exact hBu.below (below_alloc _ _) (Nat.le_refl _)
              case measure => simp [intOf]; omega
        · obtain rfl : k = 60 := by omega
          obtain ⟨p, q, rfl, hB⟩ := hW.bss ho hvl
          go_wp2_with fail
          go_ret
          exact ⟨p, q, rfl, hB, hb⟩

end Go.Proofs.YtfknplcnfpincaaGreat

/-
  The contract of the reference's Block. Conditions: a block of 16 bytes; the box of all bytes, and the words of all rounds' keys, lie where the slices lead.
-/
namespace Go.Proofs.YtfknplcnfpincaaGreat
open Go.RowKit

/-- Sixteen bytes that a call handed back. -/
theorem Own.bs16 {w : World} {b : Nat} {p : Option Addr} {m q : Nat} {l : List UInt8} (h : Own w b (.slice p m q) l) (hl : l.length = 16) : m = 16 := by
  rw [← h.toBs.len]; exact hl

set_option maxRecDepth 100000 in
set_option maxHeartbeats 2000000 in
theorem rBlock (w : World) {a wa ab : Option Addr} {c wc' cb : Nat} {F b : List UInt8} (hX : Bs w a 256 c boxT) (hF : F.length = 240) (hW : Bss w wa 60 wc' (wdsL F)) (hb : Bs w ab 16 cb b) :
    Calls Tryz.prog 65 #[.slice a 256 c, .slice wa 60 wc', .slice ab 16 cb] w (Gives w (aesL F b)) := by
  have HB : Hid (b.length = 16) := hb.len
  have HR : Hid (∀ r, r ≤ 14 → (rk F r).length = 16) := fun r hr => rk_length hF hr
  have HS : Hid (∀ r, r ≤ 14 → (blkS F b r).length = 16) := fun r hr => blkS_length hF HB.out hr
  have CK : Hid (∀ (w : World) (r : Nat), Bss w wa 60 wc' (wdsL F) → r ≤ 14 → Calls Tryz.prog 80 #[.slice wa 60 wc', .int .i64 (r : Int)] w (Gives w (rk F r))) := fun w r h hr => rRoundKey w hF h r hr
  have C0 : Hid (Calls Tryz.prog 80 #[.slice wa 60 wc', .int .i64 0] w (Gives w (rk F 0))) := CK.out w 0 hW (by omega)
  clear hF
  go_enter Tryz.func65, Tryz.ntmps65
  go_wp2_with fail
  refine C0.out.mono ?_
  rintro e w1 ⟨a1, m1, c1, rfl, ho1, hb1⟩
  obtain rfl := ho1.bs16 (HR.out 0 (by omega))
  go_wp2_with fail
  refine (rBoth w1 (hb.below hb1 (Nat.le_refl _)) ho1.toBs (by omega) (by omega)).mono ?_
  rintro e w2 ⟨a2, m2, c2, rfl, ho2, hb2⟩
  have q2 := hb1.trans (hb2.mono hb1.size)
  obtain rfl := ho2.bs16 (HS.out 0 (by omega))
  have hB2 : Bs w2 a2 16 c2 (blkS F b 0) := ho2.toBs
  clear ho1 ho2 hb1 hb2 C0
  go_wp2_with fail
  go_loopw [7, 8] (fun v i wr => ∃ (r : Nat) (ax : Option Addr) (cx : Nat), r < 14 ∧ i = .int .i64 ((r : Int) + 1) ∧ v = .slice ax 16 cx ∧ Bs wr ax 16 cx (blkS F b r) ∧ Below w.heap.size w wr) (fun _ i _ => 14 - (intOf i).toNat)
  case atStart => exact ⟨0, a2, c2, by omega, rfl, rfl, hB2, q2⟩
  case round =>
    clear hB2 q2
    obtain ⟨r, ax, cx, hr, rfl, rfl, hB, hbl⟩ := hrel
    by_cases hlt : r < 13
    · have h1 : (r : Int) + 1 < 14 := by omega
      have HN : Hid (blkS F b (r + 1) = xorL (mixL (shf (blkS F b r))) (rk F (r + 1))) := by show _ = _; rw [blkS, if_pos (by omega)]
      go_wp2_with fail
      refine (rShifted wr (hX.below hbl (Nat.le_refl _)) hB).mono ?_
      rintro e w3 ⟨a3, m3, c3, rfl, ho3, hb3⟩
      have q3 := hbl.trans (hb3.mono hbl.size)
      obtain rfl := ho3.bs16 (shf_length _)
      go_wp2_with fail
      refine (rMixed w3 ho3.toBs).mono ?_
      rintro e w4 ⟨a4, m4, c4, rfl, ho4, hb4⟩
      have q4 := q3.trans (hb4.mono q3.size)
      obtain rfl := ho4.bs16 (mixL_length _)
      have CR : Hid (Calls Tryz.prog 80 #[.slice wa 60 wc', .int .i64 ((r : Int) + 1)] w4 (Gives w4 (rk F (r + 1)))) := by
        have := CK.out w4 (r + 1) (hW.below q4 (Nat.le_refl _)) (by omega)
        rw [show ((r + 1 : Nat) : Int) = (r : Int) + 1 from by omega] at this
        exact this
      go_wp2_with fail
      refine CR.out.mono ?_
      rintro e w5 ⟨a5, m5, c5, rfl, ho5, hb5⟩
      have q5 := q4.trans (hb5.mono q4.size)
      obtain rfl := ho5.bs16 (HR.out (r + 1) (by omega))
      go_wp2_with fail
      refine (rBoth w5 (ho4.toBs.below hb5 (Nat.le_refl _)) ho5.toBs (by omega) (by omega)).mono ?_
      rintro e w6 ⟨a6, m6, c6, rfl, ho6, hb6⟩
      have q6 := q5.trans (hb6.mono q5.size)
      rw [← HN.out] at ho6
      obtain rfl := ho6.bs16 (HS.out (r + 1) (by omega))
      have hB6 := ho6.toBs
      clear ho3 ho4 ho5 ho6 hb3 hb4 hb5 hb6 q3 q4 q5 hB hbl CR
      go_wp2_with fail
      go_roundw
      case rel => exact ⟨r + 1, a6, c6, by omega, by go_num, rfl, hB6, q6⟩
      case measure => simp [intOf]; omega
    · obtain rfl : r = 13 := by omega
      have HN : Hid (aesL F b = xorL (shf (blkS F b 13)) (rk F 14)) := rfl
      go_wp2_with fail
      refine (rShifted wr (hX.below hbl (Nat.le_refl _)) hB).mono ?_
      rintro e w3 ⟨a3, m3, c3, rfl, ho3, hb3⟩
      have q3 := hbl.trans (hb3.mono hbl.size)
      obtain rfl := ho3.bs16 (shf_length _)
      have CR : Hid (Calls Tryz.prog 80 #[.slice wa 60 wc', .int .i64 14] w3 (Gives w3 (rk F 14))) := CK.out w3 14 (hW.below q3 (Nat.le_refl _)) (by omega)
      go_wp2_with fail
      refine CR.out.mono ?_
      rintro e w5 ⟨a5, m5, c5, rfl, ho5, hb5⟩
      have q5 := q3.trans (hb5.mono q3.size)
      obtain rfl := ho5.bs16 (HR.out 14 (by omega))
      go_wp2_with fail
      refine (rBoth w5 (ho3.toBs.below hb5 (Nat.le_refl _)) ho5.toBs (by omega) (by omega)).mono ?_
      rintro e w6 ⟨a6, m6, c6, rfl, ho6, hb6⟩
      have q6 := q5.trans (hb6.mono q5.size)
      rw [← HN.out] at ho6
      go_wp2_with fail
      go_ret
      exact Gives.mk (ho6.mono q5.size) q6

end Go.Proofs.YtfknplcnfpincaaGreat
