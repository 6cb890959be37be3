/-
  6 texts in one. No statement of the seat is proved here.
-/
import Derived.Test.YtbgdckhadfcnbaaG12
import Derived.Laws.BytesArg
import Derived.Laws.IdiomStrings
/-
  The contracts of layer 6's New, Seal and Open. Conditions: the key lies where the pointer leads; what stands beside, and texts, of at most 300 bytes.
-/
namespace Go.Proofs.Ytbgdckhadfcnbaa
open Go.RowKit

theorem oGSealNot (w : World) {r : Nat} {K : List UInt8} {an ae at' : Option Addr} {n cn ne ce nt ct : Nat} (_hG : Gc w r K) (hn : ¬ n = 12) :
    Calls Try.prog 11 #[.pointer (some ⟨r, 0, none⟩), .slice an n cn, .slice ae ne ce, .slice at' nt ct] w fun e w' => e = .returned (.tuple #[.slice none 0 0, .int .i64 17]) ∧ Below w.heap.size w w' := by
  have h1 : ((n : Int) != 12) = true := by simp; omega
  go_enter Try.func11, Try.ntmps11
  go_wp2
  go_ret2
  exact ⟨rfl, Below.refl _ _⟩
theorem oGOpenNot (w : World) {r : Nat} {K : List UInt8} {an ae at' : Option Addr} {n cn ne ce nt ct : Nat} (_hG : Gc w r K) (hn : ¬ n = 12) :
    Calls Try.prog 15 #[.pointer (some ⟨r, 0, none⟩), .slice an n cn, .slice ae ne ce, .slice at' nt ct] w fun e w' => e = .returned (.tuple #[.slice none 0 0, .int .i64 17]) ∧ Below w.heap.size w w' := by
  have h1 : ((n : Int) != 12) = true := by simp; omega
  go_enter Try.func15, Try.ntmps15
  go_wp2
  go_ret2
  exact ⟨rfl, Below.refl _ _⟩
theorem oGOpenShort (w : World) {r : Nat} {K : List UInt8} {an ae at' : Option Addr} {cn ne ce nt ct : Nat} (_hG : Gc w r K) (hn : nt < 16) :
    Calls Try.prog 15 #[.pointer (some ⟨r, 0, none⟩), .slice an 12 cn, .slice ae ne ce, .slice at' nt ct] w fun e w' => e = .returned (.tuple #[.slice none 0 0, .int .i64 3]) ∧ Below w.heap.size w w' := by
  have h1 : ((12 : Int) != 12) = false := by decide
  have h2 : (nt : Int) < 16 := by omega
  go_enter Try.func15, Try.ntmps15
  go_wp2
  go_ret2
  exact ⟨rfl, Below.refl _ _⟩

set_option maxRecDepth 100000 in
set_option maxHeartbeats 2000000 in
theorem oGSeal (w : World) {r : Nat} {K nonce be t : List UInt8} {an ae at' : Option Addr} {cn ne ce nt ct : Nat} (hG : Gc w r K) (hK : K.length = 240) (hn : Bs w an 12 cn nonce) (hE : Bs w ae ne ce be) (hT : Bs w at' nt ct t) (hze : ne ≤ 300) (hzt : nt ≤ 300) :
    Calls Try.prog 11 #[.pointer (some ⟨r, 0, none⟩), .slice an 12 cn, .slice ae ne ce, .slice at' nt ct] w (GivesC w (sealL K nonce be t)) := by
  have HNL : Hid (nonce.length = 12) := hn.len
  have HSL : Hid ((strL K nonce t).length = nt) := by show _ = _; rw [strL_length hK HNL.out, hT.len]
  have HTL : Hid ((tagL K nonce be (strL K nonce t)).length = 16) := tagL_length hK HNL.out _ _
  have HS : Hid (sealL K nonce be t = strL K nonce t ++ tagL K nonce be (strL K nonce t)) := rfl
  have h1 : ((12 : Int) != 12) = false := by decide
  obtain ⟨Z, hZ⟩ : ∃ Z, Z = sealL K nonce be t := ⟨_, rfl⟩
  rw [← hZ] at HS ⊢
  clear hZ
  go_enter Try.func11, Try.ntmps11
  go_wp2_with fail
  refine (oHidden w hG hK hn hT (by omega)).mono ?_
  rintro e u1 ⟨p1, m1, x1, rfl, ho1, hG1⟩
  have hB1 := ho1.toBs
  have hm1 : m1 = nt := by rw [← hB1.len]; exact HSL.out
  subst hm1
  generalize strL K nonce t = s at *
  go_wp2_with fail
  refine (oTagG u1 (hG.below hG1) hK (hn.below hG1 (Nat.le_refl _)) (hE.below hG1 (Nat.le_refl _)) hB1 (by omega) (by omega)).mono ?_
  rintro e u2 ⟨p2, m2, x2, rfl, ho2, hG2⟩
  have hm2 : m2 = 16 := by rw [← ho2.toBs.len]; exact HTL.out
  subst hm2
  go_wp2_with fail
  refine (oJoin2 u2 (hB1.below hG2 (Nat.le_refl _)) ho2.toBs (by omega)).mono ?_
  rintro e u3 ⟨p3, m3, x3, rfl, ho3, hb3⟩
  rw [← HS.out] at ho3
  have q2 : Below w.heap.size w u2 := hG1.trans (hG2.mono hG1.size)
  go_wp2_with fail
  go_ret2
  exact ⟨p3, m3, x3, rfl, ho3.mono q2.size, q2.trans (hb3.mono q2.size)⟩

set_option maxRecDepth 100000 in
set_option maxHeartbeats 2000000 in
theorem oGOpen (w : World) {r : Nat} {K nonce be s : List UInt8} {an ae as' : Option Addr} {cn ne ce ns cs' : Nat} (hG : Gc w r K) (hK : K.length = 240) (hn : Bs w an 12 cn nonce) (hE : Bs w ae ne ce be) (hS : Bs w as' ns cs' s) (hze : ne ≤ 300) (hzs : ns ≤ 300) (h16 : 16 ≤ ns) :
    Calls Try.prog 15 #[.pointer (some ⟨r, 0, none⟩), .slice an 12 cn, .slice ae ne ce, .slice as' ns cs'] w (OpensC w (decide (tagL K nonce be (s.take (ns - 16)) = s.drop (ns - 16))) (strL K nonce (s.take (ns - 16)))) := by
  have HNL : Hid (nonce.length = 12) := hn.len
  have h1 : ((12 : Int) != 12) = false := by decide
  obtain ⟨m, hm⟩ : ∃ m, m = ns - 16 := ⟨_, rfl⟩
  have i0 : ¬ (ns : Int) < 16 := by omega
  have i1 : (ns : Int) - 16 = (m : Int) := by omega
  have i2 : (0 : Int) ≤ (m : Int) := by omega
  have i3 : (m : Int) ≤ (ns : Int) := by omega
  rw [← hm]
  have HM : Hid (m = ns - 16) := hm
  clear hm
  have hmn : m ≤ ns := by have := HM.out; omega
  obtain ⟨hhi, hhB⟩ := hS.cutHigh m hmn
  obtain ⟨p', x', hlo, hlB, _⟩ := hS.cutLow m hmn
  have hsH := hhB w hS
  have hsL := hlB w hS
  obtain ⟨A, hA⟩ : ∃ A, A = s.take m := ⟨_, rfl⟩
  obtain ⟨C, hC⟩ : ∃ C, C = s.drop m := ⟨_, rfl⟩
  rw [← hA] at hsH ⊢
  rw [← hC] at hsL ⊢
  clear hA hC hhB hlB
  obtain ⟨b, hb⟩ : ∃ b, b = decide (C = tagL K nonce be A) := ⟨_, rfl⟩
  have hb' : decide (tagL K nonce be A = C) = b := by rw [hb]; exact decide_eq_decide.2 eq_comm
  have HB : Hid (decide (tagL K nonce be A = C) = b) := hb'
  clear hb'
  go_enter Try.func15, Try.ntmps15
  go_wp2_with fail
  refine regionG (S := Grows w) (by kernel_rfl) (Below.refl _ w).drew ?_
  refine takeG 0 (some 20) (.slice as' ns cs') rfl rfl (by kernel_rfl) (by kernel_rfl) (by kernel_rfl) (fun _ _ _ h => h) (ans_plain (by rfl) (fun w _ => rfl)) ?_
  simp only [Act.put, List.setIfInBounds_toArray, List.set_cons_zero, List.set_cons_succ]
  refine takeG 1 (some 21) (.int .i64 (m : Int)) rfl rfl (by kernel_rfl) (by kernel_rfl) (by kernel_rfl) (fun _ _ _ h => h) (ans_plain (by rfl) (fun w _ => rfl)) ?_
  simp only [Act.put, List.setIfInBounds_toArray, List.set_cons_zero, List.set_cons_succ]
  refine takeG 2 (some 22) (.slice p' (ns - m) x') rfl rfl (by kernel_rfl) (by kernel_rfl) (by kernel_rfl) (fun _ _ _ h => h) (ans_lo (.tmp 20) (.tmp 21) rfl (by rfl) _ _ _ rfl rfl hlo) ?_
  simp only [Act.put, List.setIfInBounds_toArray, List.set_cons_zero, List.set_cons_succ]
  refine takeG 3 (some 23) (.pointer (some ⟨r, 0, none⟩)) rfl rfl (by kernel_rfl) (by kernel_rfl) (by kernel_rfl) (fun _ _ _ h => h) (ans_plain (by rfl) (fun w _ => rfl)) ?_
  simp only [Act.put, List.setIfInBounds_toArray, List.set_cons_zero, List.set_cons_succ]
  refine takeG 4 (some 24) (.slice an 12 cn) rfl rfl (by kernel_rfl) (by kernel_rfl) (by kernel_rfl) (fun _ _ _ h => h) (ans_plain (by rfl) (fun w _ => rfl)) ?_
  simp only [Act.put, List.setIfInBounds_toArray, List.set_cons_zero, List.set_cons_succ]
  refine takeG 5 (some 25) (.slice ae ne ce) rfl rfl (by kernel_rfl) (by kernel_rfl) (by kernel_rfl) (fun _ _ _ h => h) (ans_plain (by rfl) (fun w _ => rfl)) ?_
  simp only [Act.put, List.setIfInBounds_toArray, List.set_cons_zero, List.set_cons_succ]
  refine takeG 6 (some 26) (.slice as' ns cs') rfl rfl (by kernel_rfl) (by kernel_rfl) (by kernel_rfl) (fun _ _ _ h => h) (ans_plain (by rfl) (fun w _ => rfl)) ?_
  simp only [Act.put, List.setIfInBounds_toArray, List.set_cons_zero, List.set_cons_succ]
  refine takeG 7 (some 27) (.int .i64 (m : Int)) rfl rfl (by kernel_rfl) (by kernel_rfl) (by kernel_rfl) (fun _ _ _ h => h) (ans_plain (by rfl) (fun w _ => rfl)) ?_
  simp only [Act.put, List.setIfInBounds_toArray, List.set_cons_zero, List.set_cons_succ]
  refine takeG 8 (some 28) (.slice as' m cs') rfl rfl (by kernel_rfl) (by kernel_rfl) (by kernel_rfl) (fun _ _ _ h => h) (ans_hi (.tmp 26) (.tmp 27) rfl (by rfl) _ _ _ rfl rfl hhi) ?_
  simp only [Act.put, List.setIfInBounds_toArray, List.set_cons_zero, List.set_cons_succ]
  refine callG 9 (some 29) 27 #[.tmp 23, .tmp 24, .tmp 25, .tmp 28] #[24, 22, 22, 22] #[.pointer (some ⟨r, 0, none⟩), .slice an 12 cn, .slice ae ne ce, .slice as' m cs'] rfl rfl rfl (by rfl) (by rfl) (by kernel_rfl) Try.call27 fun u1 hg1 hs1 => ?_
  refine (oTagG u1 (hG.below hs1) hK (hn.grows hs1) (hE.grows hs1) (hsH.grows hs1) (by omega) (by omega)).mono ?_
  rintro e u2 ⟨p2, m2, x2, rfl, ho2, hG2⟩
  refine ⟨_, rfl, Grows.trans hs1 hG2, ?_⟩
  simp only [Act.put, List.setIfInBounds_toArray, List.set_cons_zero, List.set_cons_succ]
  refine callG 10 (some 30) 34 #[.tmp 22, .tmp 29] #[22, 22] #[.slice p' (ns - m) x', .slice p2 m2 x2] rfl rfl rfl (by rfl) (by rfl) (by kernel_rfl) Try.call34 fun u3 hg3 hs3 => ?_
  refine (oSame u3 (hsL.grows hs3) (ho2.toBs.grows hg3)).mono ?_
  rintro e u4 ⟨rfl, rfl⟩
  rw [← hb]
  refine ⟨_, rfl, hs3, ?_⟩
  simp only [Act.put, List.setIfInBounds_toArray, List.set_cons_zero, List.set_cons_succ]
  refine takeG 11 (some 31) (.bool (!b)) rfl rfl (by kernel_rfl) (by kernel_rfl) (by kernel_rfl) (fun _ _ _ h => h) (ans_plain (by rfl) (fun w _ => by unfold execOp; go_simp)) ?_
  simp only [Act.put, List.setIfInBounds_toArray, List.set_cons_zero, List.set_cons_succ]
  refine doneG (by kernel_rfl) fun u5 hg5 hs5 => ?_
  cases b with
  | false =>
    go_wp2_with fail
    go_ret2
    unfold OpensC
    rw [HB.out, if_neg (by decide)]
    exact ⟨rfl, hs5⟩
  | true =>
    go_wp2_with fail
    refine (oHidden u5 (hG.below hs5) hK (hn.grows hs5) (hsH.grows hs5) (by omega)).mono ?_
    rintro e u7 ⟨p7, m7, x7, rfl, ho7, hG7⟩
    go_wp2_with fail
    go_ret2
    unfold OpensC
    rw [HB.out, if_pos rfl]
    exact ⟨p7, m7, x7, rfl, ho7.mono (Below.size hs5), Grows.trans hs5 hG7⟩

end Go.Proofs.Ytbgdckhadfcnbaa

/-
  The cipher with the box as a written table, so that the kernel reckons quickly. No condition; nothing of the program.
-/
namespace Go.Proofs.Ytbgdckhadfcnbaa

def boxTab : List UInt8 := [99, 124, 119, 123, 242, 107, 111, 197, 48, 1, 103, 43, 254, 215, 171, 118, 202, 130, 201, 125, 250, 89, 71, 240, 173, 212, 162, 175, 156, 164, 114, 192, 183, 253, 147, 38, 54, 63, 247, 204, 52, 165, 229, 241, 113, 216, 49, 21, 4, 199, 35, 195, 24, 150, 5, 154, 7, 18, 128, 226, 235, 39, 178, 117, 9, 131, 44, 26, 27, 110, 90, 160, 82, 59, 214, 179, 41, 227, 47, 132, 83, 209, 0, 237, 32, 252, 177, 91, 106, 203, 190, 57, 74, 76, 88, 207, 208, 239, 170, 251, 67, 77, 51, 133, 69, 249, 2, 127, 80, 60, 159, 168, 81, 163, 64, 143, 146, 157, 56, 245, 188, 182, 218, 33, 16, 255, 243, 210, 205, 12, 19, 236, 95, 151, 68, 23, 196, 167, 126, 61, 100, 93, 25, 115, 96, 129, 79, 220, 34, 42, 144, 136, 70, 238, 184, 20, 222, 94, 11, 219, 224, 50, 58, 10, 73, 6, 36, 92, 194, 211, 172, 98, 145, 149, 228, 121, 231, 200, 55, 109, 141, 213, 78, 169, 108, 86, 244, 234, 101, 122, 174, 8, 186, 120, 37, 46, 28, 166, 180, 198, 232, 221, 116, 31, 75, 189, 139, 138, 112, 62, 181, 102, 72, 3, 246, 14, 97, 53, 87, 185, 134, 193, 29, 158, 225, 248, 152, 17, 105, 217, 142, 148, 155, 30, 135, 233, 206, 85, 40, 223, 140, 161, 137, 13, 191, 230, 66, 104, 65, 153, 45, 15, 176, 84, 187, 22]
set_option maxRecDepth 100000 in
theorem boxTab_ok : boxTab = boxT := by
  rw [← box_tab]
  decide +kernel
def bxT (x : UInt8) : UInt8 := boxTab.getD x.toNat 0
theorem box_is : box = bxT := by
  funext x
  unfold bxT
  rw [boxTab_ok]
  have h := box_at x
  unfold bt at h
  exact UInt8.toNat_inj.1 (by omega)
def shfB (bx : UInt8 → UInt8) (b : List UInt8) : List UInt8 := (List.range 16).map fun i => bx (b.getD ((i + i % 4 * 4) % 16) 0)
def blkB (bx : UInt8 → UInt8) (K b : List UInt8) : Nat → List UInt8
  | 0 => xorL b (rk K 0)
  | r + 1 => xorL (if r + 1 < 14 then mixL (shfB bx (blkB bx K b r)) else shfB bx (blkB bx K b r)) (rk K (r + 1))
theorem blk_B (K b : List UInt8) (r : Nat) : blkS K b r = blkB box K b r := by
  induction r with
  | zero => rfl
  | succ r ih => rw [blkS, blkB, ih]; rfl
def tmpB (bx : UInt8 → UInt8) (x : List UInt8) (i : Nat) : List UInt8 :=
  if i % 8 = 0 then [bx (x.getD 1 0) ^^^ dpow ((i - 1) / 8), bx (x.getD 2 0), bx (x.getD 3 0), bx (x.getD 0 0)]
  else if i % 8 = 4 then x.map bx else x
def flB (bx : UInt8 → UInt8) (key : List UInt8) : Nat → List UInt8
  | 0 => []
  | i + 1 => flB bx key i ++ (if i < 8 then wd key i else xorL (wd (flB bx key i) (i - 8)) (tmpB bx (wd (flB bx key i) (i - 1)) i))
theorem fl_B (key : List UInt8) (i : Nat) : fl key i = flB box key i := by
  induction i with
  | zero => rfl
  | succ i ih => rw [fl, flB, ih]; rfl
theorem aes_fast (K b : List UInt8) : aesL K b = blkB bxT K b 14 := by
  unfold aesL
  rw [blk_B, box_is]
theorem key_fast (key : List UInt8) : keyF key = flB bxT key 60 := by
  unfold keyF
  rw [fl_B, box_is]

end Go.Proofs.Ytbgdckhadfcnbaa

/-
  The contract of the program's Hex: two digits of sixteen of each byte. Condition: a row of at most 1000000 bytes.
-/
namespace Go.Proofs.Ytbgdckhadfcnbaa
open Go.RowKit

def digs : List UInt8 := [48, 49, 50, 51, 52, 53, 54, 55, 56, 57, 97, 98, 99, 100, 101, 102]
def hex2 (x : UInt8) : List UInt8 := [digs.getD (x.toNat / 16) 0, digs.getD (x.toNat % 16) 0]
def hexL (l : List UInt8) : List UInt8 := l.flatMap hex2

theorem Own.shape {w : World} {base : Nat} {v : Value} {l : List UInt8} (h : Own w base v l) : ∃ a m c, v = .slice a m c ∧ (a = none ∨ ∃ g, a = some ⟨g, 0, none⟩) := by
  obtain ⟨_, h2⟩ := h
  rcases h2 with ⟨rfl, _⟩ | ⟨g, cap, cur, rfl, _⟩
  · exact ⟨none, 0, 0, rfl, Or.inl rfl⟩
  · exact ⟨_, _, cap, rfl, Or.inr ⟨g, rfl⟩⟩

/-- 'string(b)' of bytes of the call's own. -/
theorem Own.str {w : World} {base : Nat} {a : Option Addr} {m c : Nat} {l : List UInt8} (h : Own w base (.slice a m c) l) : Sem.run Try.prog (convert 22 9 (.slice a m c)) w = .ok (.string ⟨l.toArray⟩) w := by
  have hb := h.toBs
  obtain ⟨a', m', c', e, hs⟩ := h.shape
  simp only [Value.slice.injEq] at e
  obtain ⟨rfl, rfl, rfl⟩ := e
  rcases hs with rfl | ⟨g, rfl⟩
  · have hc := hb.2.2.2.1 rfl
    have hcap := hb.cap
    have e : l = [] := List.length_eq_zero_iff.1 (by rw [hb.len]; omega)
    subst e
    rw [run_convert_bytes_nil w 22 5 Try.underlying22 Try.underlying5 m c 9 Try.underlying9]
    rfl
  · rw [run_convert_bytes_arg w 22 5 Try.underlying22 Try.underlying5 g 0 m c (l.map fun x => (x.toNat : Int)) (by simp [hb.len]) ?_ 9 Try.underlying9]
    · have e : strOfNums (l.map fun x => (x.toNat : Int)) = ⟨l.toArray⟩ := by
        unfold strOfNums
        simp [Function.comp_def]
      rw [e]
    · intro i hi
      obtain ⟨b, o, ha, hc⟩ := hb.2.2.2.2 i hi
      simp at ha
      obtain ⟨rfl, rfl⟩ := ha
      rw [hc]
      have hi' : i < l.length := by rw [hb.len]; exact hi
      rw [bt_of_lt hi']
      simp [List.getD_eq_getElem?_getD, hi']

theorem dig_at (i : Nat) (h : i < 16) : (⟨#[48, 49, 50, 51, 52, 53, 54, 55, 56, 57, 97, 98, 99, 100, 101, 102]⟩ : ByteArray)[i]'h = digs.getD i 0 := by
  have : ∀ j : Fin 16, (⟨#[48, 49, 50, 51, 52, 53, 54, 55, 56, 57, 97, 98, 99, 100, 101, 102]⟩ : ByteArray)[j.val]'j.isLt = digs.getD j.val 0 := by decide
  exact this ⟨i, h⟩

theorem hex_step {l : List UInt8} {k : Nat} (h : k < l.length) : hexL (l.take k) ++ hex2 l[k] = hexL (l.take (k + 1)) := by
  rw [take_snoc h]
  unfold hexL
  rw [List.flatMap_append]
  simp only [List.flatMap_cons, List.flatMap_nil, List.append_nil]
theorem hexL_length (l : List UInt8) : (hexL l).length = 2 * l.length := by
  induction l with
  | nil => rfl
  | cons x r ih => simp [hexL, hex2] at *; omega

abbrev dg (i : Nat) (h : i < 16) : UInt8 := (⟨#[48, 49, 50, 51, 52, 53, 54, 55, 56, 57, 97, 98, 99, 100, 101, 102]⟩ : ByteArray)[i]'h
theorem and15 {a : Int} (h0 : 0 ≤ a) (h1 : a ≤ 255) : bits .and .u8 a 15 = a % 16 := by
  rw [u8_and a 15 h0 (by omega) (by omega) (by omega), show (15 : Int).toNat = 2 ^ 4 - 1 from rfl, Nat.and_two_pow_sub_one_eq_mod]
  omega
theorem hex_own {w : World} {base : Nat} {v : Value} {l : List UInt8} {k : Nat} (h : k < l.length) (p1 : (bt l k / 16).toNat < 16) (p2 : (bt l k % 16).toNat < 16) (ho : Own w base v (hexL (l.take k) ++ [dg (bt l k / 16).toNat p1, dg (bt l k % 16).toNat p2])) : Own w base v (hexL (l.take (k + 1))) := by
  rw [← hex_step h]
  have e1 : (bt l k / 16).toNat = l[k].toNat / 16 := by rw [bt_of_lt h]; omega
  have e2 : (bt l k % 16).toNat = l[k].toNat % 16 := by rw [bt_of_lt h]; omega
  have d1 : dg (bt l k / 16).toNat p1 = digs.getD (l[k].toNat / 16) 0 := by rw [← e1]; exact dig_at _ p1
  have d2 : dg (bt l k % 16).toNat p2 = digs.getD (l[k].toNat % 16) 0 := by rw [← e2]; exact dig_at _ p2
  unfold hex2
  rw [← d1, ← d2]
  exact ho
theorem hex_room {l : List UInt8} {n k : Nat} (H : Hid (l.length = n)) (h : n ≤ 1000000) (x y : UInt8) : (hexL (l.take k)).length + [x, y].length ≤ 1000000000 := by
  have : (l.take k).length ≤ l.length := List.length_take_le' _ _
  rw [hexL_length]
  rw [H.out] at this
  simp only [List.length_cons, List.length_nil]
  omega
theorem ret_str {A B : List UInt8} (h : A = B) : Ending.returned (.string ⟨A.toArray⟩) = .returned (.string ⟨B.toArray⟩) := by rw [h]
theorem hex_end {l : List UInt8} {n k : Nat} (H : Hid (l.length = n)) (h : ¬ k < n) : hexL (l.take k) = hexL l := by
  rw [List.take_of_length_le (by rw [H.out]; omega)]

set_option maxHeartbeats 400000 in
theorem oHex (w : World) {a : Option Addr} {n c : Nat} {l : List UInt8} (ha : Bs w a n c l) (hz : n ≤ 1000000) :
    Calls Try.prog 17 #[.slice a n c] w fun e w' => e = .returned (.string ⟨(hexL l).toArray⟩) ∧ Below w.heap.size w w' := by
  by_cases h0 : n = 0
  · subst h0
    have e : l = [] := List.length_eq_zero_iff.1 ha.len
    subst e
    clear ha
    go_enter Try.func17, Try.ntmps17
    go_wp2_with (at_make; refine wpList_mk0 _ rfl _ _ rfl w.heap.size _ rfl rfl (by omega) (by omega) (Nat.le_refl _) ?_; intro v1 w1 hown hbel; obtain ⟨ap, mp, cp, rfl, _⟩ := hown.shape)
    have hstr := hown.str
    refine wp_loop_rounds 1 ?_; rw [rounds_succ]; go_wp2
    go_ret
    exact ⟨rfl, hbel⟩
  · obtain ⟨x, o, rfl, hx, hc⟩ := ha.at (by omega)
    have H : Hid (l.length = n) := ha.len
    clear ha
    go_enter Try.func17, Try.ntmps17
    go_wp2_with (at_make; refine wpList_mk0 _ rfl _ _ rfl w.heap.size _ rfl rfl (by omega) (by omega) (Nat.le_refl _) ?_; intro v1 w1 hown hbel)
    go_loopw [3, 12] (fun v i wr => ∃ k : Nat, k ≤ n ∧ i = .int .i64 k ∧ Own wr w.heap.size v (hexL (l.take k)) ∧ Below w.heap.size w wr) (fun _ i _ => n - (intOf i).toNat)
    case atStart => exact ⟨0, Nat.zero_le _, rfl, hown, hbel⟩
    case round =>
      obtain ⟨k, hk, rfl, ho, hb⟩ := hrel
      clear hown hbel
      by_cases hlt : k < n
      · have c1 : wr.cell? ⟨x, o + k, none⟩ = some (.int .u8 (bt l k)) := by rw [hb.cell (p := ⟨x, o + k, none⟩) hx]; exact hc k (by omega)
        have b1 := bt_lo l k
        have b2 := bt_hi l k
        have q1 : 0 ≤ bt l k / 16 := by omega
        have q2 : bt l k / 16 < 16 := by omega
        have q3 : 0 ≤ bt l k % 16 := by omega
        have q4 : bt l k % 16 < 16 := by omega
        have p1 : (bt l k / 16).toNat < 16 := by omega
        have p2 : (bt l k % 16).toNat < 16 := by omega
        have ha := and15 b1 b2
        have hs : w.heap.size ≤ wr.heap.size := hb.size
        have hr := hex_room (k := k) H hz (dg (bt l k / 16).toNat p1) (dg (bt l k % 16).toNat p2)
        go_wp2
        go_region_law (refine step_app rfl (.tmp 16) (.tmp 23) rfl w.heap.size _ _ rfl (ho.below (below_alloc _ _).drew (Nat.le_refl _)) _ 2 2 [dg (bt l k / 16).toNat p1, dg (bt l k % 16).toNat p2] rfl (Bs.made _ [dg (bt l k / 16).toNat p1, dg (bt l k % 16).toNat p2] _ rfl (by simp)).drew hr (by simp; omega) ?_; intro v2 w2 ho2 hb2)
        all_goals
          go_wp2
          go_roundw
          case rel => exact ⟨k + 1, by omega, by go_num, hex_own (by rw [H.out]; exact hlt) p1 p2 ho2, (hb.trans ((below_alloc _ _).drew.mono hs)).trans hb2⟩
          case measure => simp [intOf]; omega
      · obtain ⟨ap, mp, cp, rfl, _⟩ := ho.shape
        have hstr := ho.str
        go_wp2
        go_ret
        exact ⟨ret_str (hex_end H hlt), hb⟩

end Go.Proofs.Ytbgdckhadfcnbaa

/-
  The chapter's example of layer 6, reckoned by the kernel: a key, a nonce and a block of noughts; and that the tag is another one with a byte beside. No condition; nothing of the program.
-/
namespace Go.Proofs.Ytbgdckhadfcnbaa

def K0 : List UInt8 := [0, 0, 0, 0, 0, 0, 0, 0, 0, 0, 0, 0, 0, 0, 0, 0, 0, 0, 0, 0, 0, 0, 0, 0, 0, 0, 0, 0, 0, 0, 0, 0, 98, 99, 99, 99, 98, 99, 99, 99, 98, 99, 99, 99, 98, 99, 99, 99, 170, 251, 251, 251, 170, 251, 251, 251, 170, 251, 251, 251, 170, 251, 251, 251, 111, 108, 108, 207, 13, 15, 15, 172, 111, 108, 108, 207, 13, 15, 15, 172, 125, 141, 141, 106, 215, 118, 118, 145, 125, 141, 141, 106, 215, 118, 118, 145, 83, 84, 237, 193, 94, 91, 226, 109, 49, 55, 142, 162, 60, 56, 129, 14, 150, 138, 129, 193, 65, 252, 247, 80, 60, 113, 122, 58, 235, 7, 12, 171, 158, 170, 143, 40, 192, 241, 109, 69, 241, 198, 227, 231, 205, 254, 98, 233, 43, 49, 43, 223, 106, 205, 220, 143, 86, 188, 166, 181, 189, 187, 170, 30, 100, 6, 253, 82, 164, 247, 144, 23, 85, 49, 115, 240, 152, 207, 17, 25, 109, 187, 169, 11, 7, 118, 117, 132, 81, 202, 211, 49, 236, 113, 121, 47, 231, 176, 232, 156, 67, 71, 120, 139, 22, 118, 11, 123, 142, 185, 26, 98, 116, 237, 11, 161, 115, 155, 126, 37, 34, 81, 173, 20, 206, 32, 212, 59, 16, 248, 10, 23, 83, 191, 114, 156, 69, 201, 121, 231, 203, 112, 99, 133]
set_option maxRecDepth 100000 in
theorem K0_ok : keyF (List.replicate 32 0) = K0 := by
  rw [key_fast]
  decide +kernel
theorem K0_length : K0.length = 240 := by decide +kernel
def n0 : List UInt8 := List.replicate 12 0
def E0 : List UInt8 := [220, 149, 192, 120, 162, 64, 137, 137, 173, 72, 162, 20, 146, 132, 32, 135]
set_option maxRecDepth 100000 in
theorem E0_ok : aesL K0 (List.replicate 16 0) = E0 := by
  rw [aes_fast]
  decide +kernel
def X1 : List UInt8 := [83, 15, 138, 251, 199, 69, 54, 185, 169, 99, 180, 241, 196, 203, 115, 139]
set_option maxRecDepth 100000 in
theorem X1_ok : ctrK K0 n0 1 = X1 := by
  unfold ctrK
  rw [aes_fast]
  decide +kernel
def X2 : List UInt8 := [206, 167, 64, 61, 77, 96, 107, 110, 7, 78, 197, 211, 186, 243, 157, 24]
set_option maxRecDepth 100000 in
theorem X2_ok : ctrK K0 n0 2 = X2 := by
  unfold ctrK
  rw [aes_fast]
  decide +kernel
theorem S0_ok : strL K0 n0 (List.replicate 16 0) = X2 := by
  have : strL K0 n0 (List.replicate 16 0) = xorL (List.replicate 16 0) (ctrK K0 n0 2) := rfl
  rw [this, X2_ok]
  decide +kernel
def tagE (be : List UInt8) : List UInt8 := xorL (byF (hashF (feB E0) (hashF (feB E0) (hashF (feB E0) 0 be) X2) (lens be X2))) X1
theorem tag_E (be : List UInt8) : tagL K0 n0 be X2 = tagE be := by
  unfold tagL hKey tagE
  rw [E0_ok, X1_ok]
def T0 : List UInt8 := [208, 209, 200, 167, 153, 153, 107, 240, 38, 91, 152, 181, 212, 138, 185, 25]
set_option maxRecDepth 100000 in
theorem T0_ok : tagL K0 n0 [] X2 = T0 := by
  rw [tag_E]
  decide +kernel
set_option maxRecDepth 100000 in
theorem T1_ok : ¬ tagL K0 n0 [1] X2 = T0 := by
  rw [tag_E]
  decide +kernel
theorem seal0 : sealL K0 n0 [] (List.replicate 16 0) = X2 ++ T0 := by
  unfold sealL
  rw [S0_ok, T0_ok]
theorem hex0 : hexL (X2 ++ T0) = [99, 101, 97, 55, 52, 48, 51, 100, 52, 100, 54, 48, 54, 98, 54, 101, 48, 55, 52, 101, 99, 53, 100, 51, 98, 97, 102, 51, 57, 100, 49, 56, 100, 48, 100, 49, 99, 56, 97, 55, 57, 57, 57, 57, 54, 98, 102, 48, 50, 54, 53, 98, 57, 56, 98, 53, 100, 52, 56, 97, 98, 57, 49, 57] := by decide +kernel

end Go.Proofs.Ytbgdckhadfcnbaa

/-
  The smoke of layer 6. No condition.
-/
namespace Go.Proofs.Ytbgdckhadfcnbaa
open Go.RowKit

set_option maxRecDepth 100000 in
set_option maxHeartbeats 4000000 in
theorem lWorksG (w : World) : Calls Try.prog 7 #[] w fun e w' => e = .returned (.bool true) ∧ Below w.heap.size w w' := by
  have HK : Hid (K0.length = 240) := K0_length
  have C1 : Hid (∀ (w : World) (g : Nat) (a : Option Addr), Tab w g → Bs w a 32 32 (List.replicate 32 0) → Calls Try.prog 8 #[.pointer (some ⟨g, 0, none⟩), .slice a 32 32] w fun e w' => ∃ r, e = .returned (.tuple #[.pointer (some ⟨r, 0, none⟩), .int .i64 0]) ∧ Gc w' r K0 ∧ Below w.heap.size w w') := fun w g a h h2 => by
    have := oGNew w g h h2
    rw [K0_ok] at this
    exact this
  have C2 : Hid (∀ (w : World) (r : Nat) (a b : Option Addr), Gc w r K0 → Bs w a 12 12 n0 → Bs w b 16 16 (List.replicate 16 0) → Calls Try.prog 11 #[.pointer (some ⟨r, 0, none⟩), .slice a 12 12, .slice none 0 0, .slice b 16 16] w (GivesC w (X2 ++ T0))) := fun w r a b h h2 h3 => by
    have := oGSeal w h K0_length h2 (Bs.nil w) h3 (by omega) (by omega)
    rw [seal0] at this
    exact this
  have HL : Hid ((X2 ++ T0).length = 32) := by show _ = _; decide
  have HX : Hid ((X2 ++ T0).take 16 = X2) := by show _ = _; decide
  have HT : Hid ((X2 ++ T0).drop 16 = T0) := by show _ = _; decide
  have HH : Hid (hexL (X2 ++ T0) = [99, 101, 97, 55, 52, 48, 51, 100, 52, 100, 54, 48, 54, 98, 54, 101, 48, 55, 52, 101, 99, 53, 100, 51, 98, 97, 102, 51, 57, 100, 49, 56, 100, 48, 100, 49, 99, 56, 97, 55, 57, 57, 57, 57, 54, 98, 102, 48, 50, 54, 53, 98, 57, 56, 98, 53, 100, 52, 56, 97, 98, 57, 49, 57]) := hex0
  have C3 : Hid (∀ (w : World) (r : Nat) (a b : Option Addr) (x : Nat), Gc w r K0 → Bs w a 12 12 n0 → Bs w b 32 x (X2 ++ T0) → Calls Try.prog 15 #[.pointer (some ⟨r, 0, none⟩), .slice a 12 12, .slice none 0 0, .slice b 32 x] w (GivesC w (List.replicate 16 0))) := fun w r a b x h h2 h3 => by
    have := oGOpen w h K0_length h2 (Bs.nil w) h3 (by omega) (by omega) (by omega)
    rw [show 32 - 16 = 16 from rfl, HX.out, HT.out, decide_eq_true T0_ok, show strL K0 n0 X2 = List.replicate 16 0 from by rw [← S0_ok]; exact strL_back K0_length rfl] at this
    refine this.mono fun e w' h => ?_
    unfold OpensC at h
    rw [if_pos rfl] at h
    exact h
  have C4 : Hid (∀ (w : World) (r : Nat) (a b d : Option Addr) (x : Nat), Gc w r K0 → Bs w a 12 12 n0 → Bs w d 1 1 [1] → Bs w b 32 x (X2 ++ T0) → Calls Try.prog 15 #[.pointer (some ⟨r, 0, none⟩), .slice a 12 12, .slice d 1 1, .slice b 32 x] w fun e w' => e = .returned (.tuple #[.slice none 0 0, .int .i64 6]) ∧ Below w.heap.size w w') := fun w r a b d x h h2 hd h3 => by
    have := oGOpen w h K0_length h2 hd h3 (by omega) (by omega) (by omega)
    rw [show 32 - 16 = 16 from rfl, HX.out, HT.out, decide_eq_false T1_ok] at this
    refine this.mono fun e w' h => ?_
    unfold OpensC at h
    rw [if_neg (by decide)] at h
    exact h
  generalize X2 ++ T0 = Z at *
  clear HX HT
  go_enter Try.func7, Try.ntmps7
  go_upto_region 1 with fail
  refine regionG (S := Grows w) (by kernel_rfl) (Below.refl _ w).drew ?_
  refine both2 0 1 12 13 (fun v w' => ∃ g, v = .pointer (some ⟨g, 0, none⟩) ∧ Tab w' g) (fun v w' => ∃ p, v = .slice p 32 32 ∧ Bs w' p 32 32 (List.replicate 32 0)) (by decide) (by decide) (fun v w w' h k => by obtain ⟨g, rfl, hT⟩ := h; exact ⟨g, rfl, hT.below k hT.lt⟩) (fun v w w' h k => by obtain ⟨p, rfl, hB⟩ := h; exact ⟨p, rfl, hB.grows k⟩)
    (mkCall 0 12 9 #[] #[] #[] _ rfl rfl rfl (by rfl) (by rfl) Try.call9 (fun w _ => (oBuild w).mono fun e w' h => by obtain ⟨r, rfl, hr, bT, hb⟩ := h; exact ⟨_, rfl, ⟨r, rfl, bT.tab⟩, hb⟩))
    (fun v => mkCall 0 12 9 #[] #[] #[] _ rfl rfl rfl (by rfl) (by rfl) Try.call9 (fun w _ => (oBuild w).mono fun e w' h => by obtain ⟨r, rfl, hr, bT, hb⟩ := h; exact ⟨_, rfl, ⟨r, rfl, bT.tab⟩, hb⟩))
    (mkBytes 1 13 32 rfl rfl rfl rfl (by decide)) (fun v => mkBytes 1 13 32 rfl rfl rfl rfl (by decide)) (by kernel_rfl) (by kernel_rfl) (by kernel_rfl) ?_
  rintro _ _ u1 ⟨g, rfl, hT⟩ ⟨p, rfl, hB⟩ hg1 hs1
  simp only [Act.put, List.setIfInBounds_toArray, List.set_cons_zero, List.set_cons_succ]
  refine callG 2 (some 14) 8 #[.tmp 12, .tmp 13] #[28, 22] #[.pointer (some ⟨g, 0, none⟩), .slice p 32 32] rfl rfl rfl (by rfl) (by rfl) (by kernel_rfl) Try.call8 fun u2 hg2 hs2 => ?_
  refine (C1.out u2 g p (hT.below hg2 hT.lt) (hB.grows hg2)).mono ?_
  rintro e u3 ⟨r, rfl, hG, hb3⟩
  refine ⟨_, rfl, Grows.trans hs2 hb3, ?_⟩
  simp only [Act.put, List.setIfInBounds_toArray, List.set_cons_zero, List.set_cons_succ]
  refine takeG 3 (some 11) (.tuple #[.pointer (some ⟨r, 0, none⟩), .int .i64 0]) rfl rfl (by kernel_rfl) (by kernel_rfl) (by kernel_rfl) (fun _ _ _ h => h) (ans_plain (by rfl) (fun w _ => rfl)) ?_
  simp only [Act.put, List.setIfInBounds_toArray, List.set_cons_zero, List.set_cons_succ]
  refine takeG 4 (some 15) (.pointer (some ⟨r, 0, none⟩)) rfl rfl (by kernel_rfl) (by kernel_rfl) (by kernel_rfl) (fun _ _ _ h => h) (ans_plain (by rfl) (fun w _ => rfl)) ?_
  simp only [Act.put, List.setIfInBounds_toArray, List.set_cons_zero, List.set_cons_succ]
  refine takeG 5 (some 16) (.int .i64 0) rfl rfl (by kernel_rfl) (by kernel_rfl) (by kernel_rfl) (fun _ _ _ h => h) (ans_plain (by rfl) (fun w _ => rfl)) ?_
  simp only [Act.put, List.setIfInBounds_toArray, List.set_cons_zero, List.set_cons_succ]
  refine takeG 6 (some 1) (.pointer (some ⟨r, 0, none⟩)) rfl rfl (by kernel_rfl) (by kernel_rfl) (by kernel_rfl) (fun _ _ _ h => h) (ans_plain (by rfl) (fun w _ => rfl)) ?_
  simp only [Act.put, List.setIfInBounds_toArray, List.set_cons_zero, List.set_cons_succ]
  refine takeG 7 (some 2) (.int .i64 0) rfl rfl (by kernel_rfl) (by kernel_rfl) (by kernel_rfl) (fun _ _ _ h => h) (ans_plain (by rfl) (fun w _ => rfl)) ?_
  simp only [Act.put, List.setIfInBounds_toArray, List.set_cons_zero, List.set_cons_succ]
  refine doneG (by kernel_rfl) fun u4 hg4 hs4 => ?_
  have G4 := hG.below hg4
  clear hG hT hB C1
  go_wp2_with fail
  refine (oBuild u4).mono ?_
  rintro e u5 ⟨g5, rfl, hg5, bT5, hb5⟩
  go_wp2_with fail
  refine (oGNewNot u5 g5 bT5.tab (by decide)).mono ?_
  rintro e u6 ⟨rfl, hb6⟩
  have g6 : Grows u4 u6 := Grows.trans hb5 hb6
  have G6 := G4.below g6
  have hs6 : Grows w u6 := Grows.trans hs4 g6
  go_wp2_with fail
  refine regionG (S := Grows u6) (by kernel_rfl) (Below.refl _ u6).drew ?_
  refine takeG 0 (some 25) (.pointer (some ⟨r, 0, none⟩)) rfl rfl (by kernel_rfl) (by kernel_rfl) (by kernel_rfl) (fun _ _ _ h => h) (ans_plain (by rfl) (fun w _ => rfl)) ?_
  simp only [Act.put, List.setIfInBounds_toArray, List.set_cons_zero, List.set_cons_succ]
  refine both2 1 2 26 27 (fun v w' => ∃ p, v = .slice p 12 12 ∧ Bs w' p 12 12 (List.replicate 12 0)) (fun v w' => ∃ p, v = .slice p 16 16 ∧ Bs w' p 16 16 (List.replicate 16 0)) (by decide) (by decide) (fun v w w' h k => by obtain ⟨p, rfl, hB⟩ := h; exact ⟨p, rfl, hB.grows k⟩) (fun v w w' h k => by obtain ⟨p, rfl, hB⟩ := h; exact ⟨p, rfl, hB.grows k⟩) (mkBytes 1 26 12 rfl rfl rfl rfl (by decide)) (fun v => mkBytes 1 26 12 rfl rfl rfl rfl (by decide)) (mkBytes 2 27 16 rfl rfl rfl rfl (by decide)) (fun v => mkBytes 2 27 16 rfl rfl rfl rfl (by decide)) (by kernel_rfl) (by kernel_rfl) (by kernel_rfl) ?_
  rintro _ _ u7 ⟨pa, rfl, hBa⟩ ⟨pb, rfl, hBb⟩ hg7 hs7
  simp only [Act.put, List.setIfInBounds_toArray, List.set_cons_zero, List.set_cons_succ]
  refine callG 3 (some 28) 11 #[.tmp 25, .tmp 26, .const (.slice none 0 0), .tmp 27] #[24, 22, 22, 22] #[.pointer (some ⟨r, 0, none⟩), .slice pa 12 12, .slice none 0 0, .slice pb 16 16] rfl rfl rfl (by rfl) (by rfl) (by kernel_rfl) Try.call11 fun u8 hg8 hs8 => ?_
  refine (C2.out u8 r pa pb (G6.below hs8) (hBa.grows hg8) (hBb.grows hg8)).mono ?_
  rintro e u9 ⟨p9, m9, x9, rfl, ho9, hb9⟩
  have hm9 : m9 = 32 := by rw [← ho9.toBs.len]; exact HL.out
  subst hm9
  refine ⟨_, rfl, Grows.trans hs8 hb9, ?_⟩
  simp only [Act.put, List.setIfInBounds_toArray, List.set_cons_zero, List.set_cons_succ]
  refine takeG 4 (some 24) (.tuple #[.slice p9 32 x9, .int .i64 0]) rfl rfl (by kernel_rfl) (by kernel_rfl) (by kernel_rfl) (fun _ _ _ h => h) (ans_plain (by rfl) (fun w _ => rfl)) ?_
  simp only [Act.put, List.setIfInBounds_toArray, List.set_cons_zero, List.set_cons_succ]
  refine takeG 5 (some 29) (.slice p9 32 x9) rfl rfl (by kernel_rfl) (by kernel_rfl) (by kernel_rfl) (fun _ _ _ h => h) (ans_plain (by rfl) (fun w _ => rfl)) ?_
  simp only [Act.put, List.setIfInBounds_toArray, List.set_cons_zero, List.set_cons_succ]
  refine takeG 6 (some 30) (.int .i64 0) rfl rfl (by kernel_rfl) (by kernel_rfl) (by kernel_rfl) (fun _ _ _ h => h) (ans_plain (by rfl) (fun w _ => rfl)) ?_
  simp only [Act.put, List.setIfInBounds_toArray, List.set_cons_zero, List.set_cons_succ]
  refine takeG 7 (some 5) (.slice p9 32 x9) rfl rfl (by kernel_rfl) (by kernel_rfl) (by kernel_rfl) (fun _ _ _ h => h) (ans_plain (by rfl) (fun w _ => rfl)) ?_
  simp only [Act.put, List.setIfInBounds_toArray, List.set_cons_zero, List.set_cons_succ]
  refine takeG 8 (some 6) (.int .i64 0) rfl rfl (by kernel_rfl) (by kernel_rfl) (by kernel_rfl) (fun _ _ _ h => h) (ans_plain (by rfl) (fun w _ => rfl)) ?_
  simp only [Act.put, List.setIfInBounds_toArray, List.set_cons_zero, List.set_cons_succ]
  refine doneG (by kernel_rfl) fun ua hga hsa => ?_
  have Ga := G6.below hsa
  have hB9 := ho9.toBs.grows hga
  have qa : Grows w ua := Grows.trans hs6 hsa
  clear hBa hBb ho9 hga C2 G4 G6
  go_wp2_with (first | (at_make; go_must (refine wpList_mkn ua rfl _ _ rfl ua.heap.size 12 _ rfl rfl rfl (by omega) (Nat.le_refl _) ?_); intro gb ub hgb hgbl hob hbb))
  refine (C3.out ub r _ p9 x9 (Ga.below hbb) hob.toBs (hB9.grows hbb)).mono ?_
  rintro e uc ⟨pc, mc, xc, rfl, hoc, hbc⟩
  have hmc : mc = 16 := by rw [← hoc.toBs.len]; exact List.length_replicate
  subst hmc
  have gc : Grows ua uc := Grows.trans hbb hbc
  go_wp2_with (first | (at_make; go_must (refine wpList_mkn uc rfl _ _ rfl uc.heap.size 12 _ rfl rfl rfl (by omega) (Nat.le_refl _) ?_); intro gd ud hgd hgdl hod hbd))
  have gA : Grows ud (ud.alloc (.cells #[.int .u8 1] 5)) := Grows.alloc _ _
  have gAa : Grows ua (ud.alloc (.cells #[.int .u8 1] 5)) := Grows.trans gc (Grows.trans hbd gA)
  refine (C4.out _ r _ p9 _ x9 (Ga.below gAa) (hod.toBs.grows gA) (Bs.made ud [1] #[.int .u8 1] rfl (by decide)) (hB9.grows gAa)).mono ?_
  rintro e ue ⟨rfl, hbe⟩
  have gE : Grows ua ue := Grows.trans gAa hbe
  go_wp2_with (go_at_call 17; go_must (refine (oHex ue (hB9.grows gE) (by omega)).mono ?_); rintro e uf ⟨rfl, hbf⟩; rw [HH.out])
  go_ret
  exact ⟨rfl, Grows.trans qa (Grows.trans gE hbf)⟩

end Go.Proofs.Ytbgdckhadfcnbaa

/-
  Sealed, and opened: plain. Conditions: a key's 240 bytes, a nonce of 12; nothing of the program.
-/
namespace Go.Proofs.Ytbgdckhadfcnbaa

theorem seal_take {K nonce be t : List UInt8} (hK : K.length = 240) (hn : nonce.length = 12) {n : Nat} (ht : t.length = n) : (sealL K nonce be t).take n = strL K nonce t := by
  have h : (strL K nonce t).length = n := by rw [strL_length hK hn, ht]
  unfold sealL
  rw [List.take_append_of_le_length (by omega), List.take_of_length_le (by omega)]
theorem seal_drop {K nonce be t : List UInt8} (hK : K.length = 240) (hn : nonce.length = 12) {n : Nat} (ht : t.length = n) : (sealL K nonce be t).drop n = tagL K nonce be (strL K nonce t) := by
  have h : (strL K nonce t).length = n := by rw [strL_length hK hn, ht]
  unfold sealL
  rw [← h, List.drop_left]
theorem open_seal {K nonce be t : List UInt8} (hK : K.length = 240) (hn : nonce.length = 12) {n : Nat} (ht : t.length = n) : decide (tagL K nonce be ((sealL K nonce be t).take n) = (sealL K nonce be t).drop n) = true := by
  rw [seal_take hK hn ht, seal_drop hK hn ht]
  exact decide_eq_true rfl
theorem open_text {K nonce be t : List UInt8} (hK : K.length = 240) (hn : nonce.length = 12) {n : Nat} (ht : t.length = n) : strL K nonce ((sealL K nonce be t).take n) = t := by
  rw [seal_take hK hn ht, strL_back hK hn]
theorem seal_open {K nonce be o : List UInt8} (hK : K.length = 240) (hn : nonce.length = 12) {n : Nat} (h : tagL K nonce be (o.take n) = o.drop n) : sealL K nonce be (strL K nonce (o.take n)) = o := by
  unfold sealL
  rw [strL_back hK hn, h, List.take_append_drop]

theorem set_apart {l : List UInt8} {q : Nat} (hq : q < l.length) {z : UInt8} (hz : ¬ z = 0) : ¬ l = l.set q (l.getD q 0 ^^^ z) := by
  intro e
  have h := congrArg (fun m => m.getD q 0) e
  simp only [List.getD_eq_getElem?_getD, List.getElem?_set_self hq, Option.getD_some] at h
  rw [← List.getD_eq_getElem?_getD] at h
  apply hz
  have h2 := congrArg (fun x => l.getD q 0 ^^^ x) h
  simp only [UInt8.xor_self, ← UInt8.xor_assoc, UInt8.zero_xor] at h2
  exact h2.symm
/-- A turned bit of the tag. -/
theorem bit_told {K nonce be t : List UInt8} (hK : K.length = 240) (hn : nonce.length = 12) {n q : Nat} (ht : t.length = n) (hq : q < 16) {z : UInt8} (hz : ¬ z = 0) :
    decide (tagL K nonce be (((sealL K nonce be t).set (n + q) ((sealL K nonce be t).getD (n + q) 0 ^^^ z)).take n) = ((sealL K nonce be t).set (n + q) ((sealL K nonce be t).getD (n + q) 0 ^^^ z)).drop n) = false := by
  apply decide_eq_false
  have hl := tagL_length hK hn be (strL K nonce t)
  rw [List.take_set_of_le (by omega), seal_take hK hn ht, List.drop_set, if_neg (by omega), seal_drop hK hn ht, show n + q - n = q from by omega]
  rw [show (sealL K nonce be t).getD (n + q) 0 = (tagL K nonce be (strL K nonce t)).getD q 0 from by
    rw [← seal_drop hK hn ht, List.getD_eq_getElem?_getD, List.getD_eq_getElem?_getD, List.getElem?_drop]]
  exact set_apart (by omega) hz
theorem one_shl {s : Nat} (h : s < 8) : ¬ (1 <<< UInt8.ofNat s : UInt8) = 0 := by
  have : ∀ i : Fin 8, ¬ (1 <<< UInt8.ofNat i.val : UInt8) = 0 := by decide +kernel
  exact this ⟨s, h⟩

end Go.Proofs.Ytbgdckhadfcnbaa
