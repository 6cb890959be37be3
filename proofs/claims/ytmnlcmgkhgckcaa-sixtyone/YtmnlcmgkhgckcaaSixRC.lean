/-
  The contract of layer 7's reference's Put. Condition: at most 1000 bytes.
-/
import Derived.Test.YtmnlcmgkhgckcaaSixRB
namespace Go.Proofs.Ytmnlcmgkhgckcaa
open Go.RowKit

theorem lts_cut (k : Nat) (h : k < 64) : (⟨#[65, 66, 67, 68, 69, 70, 71, 72, 73, 74, 75, 76, 77, 78, 79, 80, 81, 82, 83, 84, 85, 86, 87, 88, 89, 90, 97, 98, 99, 100, 101, 102, 103, 104, 105, 106, 107, 108, 109, 110, 111, 112, 113, 114, 115, 116, 117, 118, 119, 120, 121, 122, 48, 49, 50, 51, 52, 53, 54, 55, 56, 57, 43, 47]⟩ : ByteArray).extract k (k + 1) = ⟨[lt k].toArray⟩ := by
  have e : ((lts.drop k).take (k + 1 - k)) = [lt k] := by
    have : ∀ j : Fin 64, ((lts.drop j.val).take 1) = [lt j.val] := by decide
    rw [show k + 1 - k = 1 from by omega]
    exact this ⟨k, h⟩
  have := ByteArray.extract_mk lts k (k + 1)
  rw [e] at this
  exact this
theorem add_str (X Y Z : List UInt8) (h : Z = X ++ Y) (hX : X.length ≤ 100000) (hY : Y.length ≤ 100000) (w : World) : Sem.run Try.prog (Op.stringOp .add ⟨X.toArray⟩ ⟨Y.toArray⟩) w = .ok (.string ⟨Z.toArray⟩) w := by
  rw [h]
  exact run_string_add_lists w X Y (by omega) (by omega)
theorem str_list (X : List UInt8) : (ByteArray.mk X.toArray).toList = X := by rw [ByteArray.toList_eq]
theorem str_ne {A B : List UInt8} (h : ¬ A = B) : ((ByteArray.mk A.toArray).toList == (ByteArray.mk B.toArray).toList) = false := by
  rw [str_list, str_list, beq_eq_false_iff_ne]
  exact h
theorem str_size (X : List UInt8) : (ByteArray.mk X.toArray).size = X.length := by simp [ByteArray.size]

/-- How long a string is. -/
def strLen : Value → Nat | .string s => s.size | _ => 0

set_option maxRecDepth 100000 in
set_option maxHeartbeats 1000000 in
theorem rPut7 (w : World) {a : Option Addr} {n c : Nat} {b : List UInt8} (ha : Bs w a n c b) (hn : n ≤ 1000) :
    Calls Try.prog 9 #[.slice a n c] w fun e w' => e = .returned (.string ⟨(put64 b).toArray⟩) ∧ Below w.heap.size w w' := by
  have HL : Hid (b.length = n) := ha.len
  have HBL : Hid ((bitsL b).length = 8 * n) := by show _ = _; rw [bitsL_length, HL.out]
  have HOL : Hid ((body b).length = sixN n) := by show _ = _; rw [body_length, HL.out]
  have HSN : Hid (sixN n = (8 * n + 5) / 6) := rfl
  have HP : Hid (put64 b = body b ++ List.replicate ((4 - sixN n % 4) % 4) 61) := by show _ = _; unfold put64; rw [HL.out]
  have HAT : Hid (∀ j, j < sixN n → (body b).take (j + 1) = (body b).take j ++ [lt (valN (bitsL b) (6 * j) 6)]) := fun j hj => by
    have hl : j < (body b).length := by rw [HOL.out]; exact hj
    rw [List.take_succ_eq_append_getElem hl]
    congr 2
    have := body_at b (i := j) (by rw [HL.out]; exact hj)
    rw [List.getD_eq_getElem?_getD, List.getElem?_eq_getElem hl] at this
    exact this
  generalize put64 b = PB at *
  generalize body b = BD at *
  generalize sixN n = M at *
  go_enter Try.func9, Try.ntmps9
  go_wp2_with fail
  refine (rBits7 w ha hn).mono ?_
  rintro e w1 ⟨a1, c1, rfl, hB, _, hb1⟩
  rw [HBL.out] at hB ⊢
  generalize bitsL b = L at *
  go_wp2_with fail
  go_loop [5, 6, 7] (fun s i _ => ∃ (j : Nat) (X : List UInt8), j ≤ M ∧ i = .int .i64 ((6 * j : Nat) : Int) ∧ s = .string ⟨X.toArray⟩ ∧ Hid (X = BD.take j)) (fun _ i _ => 8 * n - (intOf i).toNat)
  case atStart => exact ⟨0, [], by omega, rfl, rfl, by show _ = _; simp⟩
  case round =>
    obtain ⟨j, X, hj, rfl, rfl, HX⟩ := hrel
    by_cases hlt : j < M
    · obtain ⟨V, hV⟩ : ∃ V, V = valN L (6 * j) 6 := ⟨_, rfl⟩
      have hV64 : V < 64 := by rw [hV]; exact sext_lt L j
      have CV : Hid (Calls Try.prog 17 #[.slice a1 (8 * n) c1, .int .i64 ((6 * j : Nat) : Int), .int .i64 6] w1 fun e w' => e = .returned (.int .i64 (V : Int)) ∧ w1 = w') := by
        show Calls _ _ _ _ _
        rw [hV]
        exact rValue7 w1 hB (6 * j) 6 (by have := HSN.out; omega) (by omega)
      obtain ⟨Z, hZ⟩ : ∃ Z, Z = X ++ [lt V] := ⟨_, rfl⟩
      have HZ : Hid (Z = BD.take (j + 1)) := by show _ = _; rw [hZ, HX.out, HAT.out j hlt, hV]
      have hXl : X.length ≤ 100000 := by rw [HX.out]; have := List.length_take_le' j BD; have := HOL.out; have := HSN.out; omega
      have hadd := add_str X [lt V] Z hZ hXl (by simp)
      have hcut := lts_cut V hV64
      obtain ⟨p, hp⟩ : ∃ p, p = 6 * j := ⟨_, rfl⟩
      rw [← hp] at CV ⊢
      have hpn : p < 8 * n := by rw [hp]; have := HSN.out; omega
      have i0 : (p : Int) < ((8 * n : Nat) : Int) := by omega
      have i1 : (0 : Int) ≤ (V : Int) := by omega
      have i2 : (V : Int) < 64 := by omega
      have HPJ : Hid (p = 6 * j) := hp
      clear hp hZ hV
      go_wp2_with (go_at_call 17; go_must (refine CV.out.mono ?_); rintro e w2 ⟨rfl, rfl⟩)
      go_round
      case rel => exact ⟨j + 1, Z, by omega, by have := HPJ.out; go_num, rfl, HZ⟩
      case measure => simp [intOf]; omega
    · obtain rfl : j = M := by omega
      have i0 : ¬ ((6 * j : Nat) : Int) < ((8 * n : Nat) : Int) := by have := HSN.out; omega
      rw [List.take_of_length_le (by rw [HOL.out]; omega)] at HX
      generalize ((6 * j : Nat) : Int) = I at *
      go_wp2_with fail
      go_loop [5] (fun s => ∃ (q : Nat) (X : List UInt8), q ≤ (4 - j % 4) % 4 ∧ s = .string ⟨X.toArray⟩ ∧ Hid (X = BD ++ List.replicate q 61)) (fun s => j + 4 - strLen s)
      case atStart => exact ⟨0, X, by omega, rfl, by show _ = _; rw [HX.out]; simp⟩
      case round =>
        clear HX
        rename_i X0
        obtain ⟨q, X, hq, rfl, HX⟩ := hrel
        obtain ⟨x, hx⟩ : ∃ x, x = X.length := ⟨_, rfl⟩
        have hxq : x = j + q := by rw [hx, HX.out, List.length_append, List.length_replicate, HOL.out]
        have hs : (ByteArray.mk X.toArray).size = x := by rw [str_size, hx]
        have HXS : Hid ((ByteArray.mk X.toArray).size = x) := hs
        obtain ⟨r, hr⟩ : ∃ r, r = x % 4 := ⟨_, rfl⟩
        have t1 : (x : Int).tmod 4 = (r : Int) := by rw [Int.tmod_eq_emod_of_nonneg (by omega)]; omega
        have t2 : (x : Int) % 4 = (r : Int) := by omega
        by_cases hlt : q < (4 - j % 4) % 4
        · have hne : ((r : Int) != 0) = true := by simp; omega
          obtain ⟨Z, hZ⟩ : ∃ Z, Z = X ++ [61] := ⟨_, rfl⟩
          have hadd := add_str X [61] Z hZ (by rw [← hx]; have := HSN.out; omega) (by simp)
          have HZ : Hid (Z = BD ++ List.replicate (q + 1) 61) := by show _ = _; rw [hZ, HX.out, List.append_assoc, List.replicate_succ']
          have HZS : Hid ((ByteArray.mk Z.toArray).size = x + 1) := by show _ = _; rw [str_size, hZ, List.length_append, ← hx]; rfl
          clear hZ hx hr
          go_wp2_with fail
          go_round
          case rel => exact ⟨q + 1, Z, by omega, rfl, HZ⟩
          case measure => show j + 4 - (ByteArray.mk Z.toArray).size < j + 4 - (ByteArray.mk X.toArray).size; rw [HZS.out, HXS.out]; omega
        · have hne : ((r : Int) != 0) = false := by simp; omega
          have HE : Hid (PB = X) := by show _ = _; rw [HP.out, HX.out, show q = (4 - j % 4) % 4 from by omega]
          clear hx hr
          go_wp2_with fail
          go_ret
          exact ⟨by rw [HE.out]; rfl, hb1⟩

end Go.Proofs.Ytmnlcmgkhgckcaa
