/-
  The contract of layer 7's reference's Get. Condition: a text of at most 1000 bytes.
-/
import Derived.Test.YtmnlcmgkhgckcaaSixRC
import Derived.Deep.CutBlock
namespace Go.Proofs.Ytmnlcmgkhgckcaa
open Go.RowKit

/-- What Get leaves: bytes in new memory, and a code. -/
def GivesG (w : World) (g : List UInt8 × Nat) (e : Ending) (w' : World) : Prop := ∃ a m c, e = .returned (.tuple #[.slice a m c, .int .i64 (g.2 : Int)]) ∧ Own w' w.heap.size (.slice a m c) g.1 ∧ Below w.heap.size w w'
theorem GivesG.none {w w' : World} {g : List UInt8 × Nat} {k : Nat} (h : g = ([], k)) (hb : Below w.heap.size w w') : GivesG w g (.returned (.tuple #[.slice none 0 0, .int .i64 (k : Int)])) w' := by
  subst h
  exact ⟨Option.none, 0, 0, rfl, Own.nil _ _, hb⟩
theorem str_at (s : List UInt8) (i : Nat) (h : i < (ByteArray.mk s.toArray).size) : (ByteArray.mk s.toArray)[i]'h = s.getD i 0 := by
  have hl : i < s.length := by rw [str_size] at h; exact h
  show (s.toArray)[i]'(by simpa using hl) = _
  rw [List.getElem_toArray, List.getD_eq_getElem?_getD, List.getElem?_eq_getElem hl]
  rfl
theorem and1_i64 : ∀ y : Nat, y < 64 → bits .and .i64 (y : Int) 1 = ((y % 2 : Nat) : Int) := by
  have : ∀ y : Fin 64, bits .and .i64 (y.val : Int) 1 = ((y.val % 2 : Nat) : Int) := by decide +kernel
  intro y h
  exact this ⟨y, h⟩
theorem bit_i64 (N k : Nat) : decide (((N / 2 ^ k % 2 : Nat) : Int) = 1) = N.testBit k := by
  rw [Nat.testBit_eq_decide_div_mod_eq]
  exact decide_eq_decide.2 (by omega)
/-- How far the signs at the end have been left. -/
def left (s : List UInt8) (e : Nat) : Prop := e = s.length ∨ (e + 1 = s.length ∧ s.getD e 0 = 61) ∨ (e + 2 = s.length ∧ s.getD e 0 = 61 ∧ s.getD (e + 1) 0 = 61)
theorem left_step {s : List UInt8} {e : Nat} (h : left s e) (h0 : 0 < e) (h2 : s.length < e + 2) (hc : s.getD (e - 1) 0 = 61) : left s (e - 1) := by
  rcases h with h | ⟨h, h1⟩ | ⟨h, _⟩
  · exact Or.inr (Or.inl ⟨by omega, hc⟩)
  · exact Or.inr (Or.inr ⟨by omega, hc, by rw [show e - 1 + 1 = e from by omega]; exact h1⟩)
  · omega
theorem left_end {s : List UInt8} {e : Nat} (h : left s e) (hs : ¬ (0 < e ∧ s.length < e + 2 ∧ s.getD (e - 1) 0 = 61)) : ends s = e := by
  unfold ends
  rcases h with h | ⟨h, h1⟩ | ⟨h, h1, h2⟩
  · by_cases h0 : s.length = 0
    · rw [if_pos h0]; omega
    · rw [if_neg h0, if_neg (fun hc => hs ⟨by omega, by omega, by rw [h]; exact hc⟩)]
      omega
  · rw [if_neg (by omega), if_pos (by rw [show s.length - 1 = e from by omega]; exact h1)]
    by_cases h0 : s.length - 1 = 0
    · rw [if_pos h0]; omega
    · rw [if_neg h0, if_neg (fun hc => hs ⟨by omega, by omega, by rw [show e - 1 = s.length - 2 from by omega]; exact hc⟩)]
      omega
  · rw [if_neg (by omega), if_pos (by rw [show s.length - 1 = e + 1 from by omega]; exact h2), if_neg (by omega), if_pos (by rw [show s.length - 2 = e from by omega]; exact h1)]
    omega
theorem num_le (c : UInt8) : num c ≤ 64 := by
  unfold num
  exact List.idxOf_le_length
theorem flat_snoc (s : List UInt8) {i : Nat} (h : i < s.length) : (s.take (i + 1)).flatMap six = (s.take i).flatMap six ++ six (s.getD i 0) := by
  rw [List.take_succ_eq_append_getElem h, List.flatMap_append]
  congr 1
  rw [List.flatMap_cons, List.flatMap_nil, List.append_nil, List.getD_eq_getElem?_getD, List.getElem?_eq_getElem h]
  rfl
theorem flat_len (s : List UInt8) : (s.flatMap six).length = 6 * s.length := by
  induction s with
  | nil => rfl
  | cons x r ih => rw [List.flatMap_cons, List.length_append, six_length, ih, List.length_cons]; omega

set_option maxRecDepth 100000 in
set_option maxHeartbeats 4000000 in
theorem rGet7 (w : World) (s : List UInt8) (hz : s.length ≤ 1000) :
    Calls Try.prog 11 #[.string ⟨s.toArray⟩] w (GivesG w (get64 s)) := by
  obtain ⟨x, hx⟩ : ∃ x, x = s.length := ⟨_, rfl⟩
  have HX : Hid (s.length = x) := hx.symm
  have hs : (ByteArray.mk s.toArray).size = x := by rw [str_size, hx]
  have HS : Hid ((ByteArray.mk s.toArray).size = x) := hs
  obtain ⟨r, hr⟩ : ∃ r, r = x % 4 := ⟨_, rfl⟩
  have t1 : (x : Int).tmod 4 = (r : Int) := by rw [Int.tmod_eq_emod_of_nonneg (by omega)]; omega
  have t2 : (x : Int) % 4 = (r : Int) := by omega
  have x1000 : x ≤ 1000 := by omega
  by_cases h4 : r = 0
  · have hne : ((r : Int) != 0) = false := by simp; omega
    have H4 : Hid (s.length % 4 = 0) := by show _ = _; omega
    clear hx hr h4 hz
    go_enter Try.func11, Try.ntmps11
    go_upto_block 0 with fail
    go_cut [4] from 17 to 34 (fun v wx => (∃ e : Nat, e ≤ x ∧ v = .int .i64 (e : Int) ∧ Hid (ends s = e)) ∧ w = wx)
    case first =>
      go_wp2_with fail
      go_loop [4] (fun v => ∃ e : Nat, e ≤ x ∧ v = .int .i64 (e : Int) ∧ Hid (left s e)) (fun v => (intOf v).toNat)
      case atStart => exact ⟨x, by omega, rfl, by rw [← HX.out]; exact Or.inl rfl⟩
      case round =>
        obtain ⟨e, he, rfl, hl⟩ := hrel
        have i2 : IntKind.i64.wrap ((x : Int) - 2) = (x : Int) - 2 := by rw [IntKind.wrap_i64]; omega
        by_cases h0 : 0 < e
        · have j0 : (0 : Int) < (e : Int) := by omega
          by_cases h2 : x < e + 2
          · have j2 : (x : Int) - 2 < (e : Int) := by omega
            obtain ⟨f, hf⟩ : ∃ f, f = e - 1 := ⟨_, rfl⟩
            have j3 : (e : Int) - 1 = (f : Int) := by omega
            have j4 : (0 : Int) ≤ (f : Int) := by omega
            have j5 : f < x := by omega
            have j6 : (f : Int) < (x : Int) := by omega
            have j7 : IntKind.i64.wrap (f : Int) = (f : Int) := by rw [IntKind.wrap_i64]; omega
            have hat := str_at s f (by rw [HS.out]; exact j5)
            have HF : Hid (f = e - 1) := hf
            have hfe : f < e := by omega
            clear hf
            by_cases hc : s.getD f 0 = 61
            · rw [hc] at hat
              have HL : Hid (left s f) := by show left s f; rw [HF.out]; exact left_step hl.out h0 (by rw [HX.out]; exact h2) (by rw [← HF.out]; exact hc)
              clear hc hl
              go_wp2_with fail
              go_round
              case rel => exact ⟨f, by omega, rfl, HL⟩
              case measure => simp [intOf]; omega
            · have HL : Hid (ends s = e) := left_end hl.out (fun h => hc (by rw [HF.out]; exact h.2.2))
              have e1 : (((s.getD f 0).toNat : Int) == 61) = false := by
                rw [beq_eq_false_iff_ne]
                intro h
                exact hc (UInt8.toNat_inj.1 (by have : (61 : UInt8).toNat = 61 := rfl; omega))
              generalize s.getD f 0 = y at *
              clear hc hl
              go_wp2_with fail
              go_meet
              case rel => exact ⟨⟨e, he, rfl, HL⟩, rfl⟩
          · have j2 : ¬ (x : Int) - 2 < (e : Int) := by omega
            have HL : Hid (ends s = e) := left_end hl.out (fun h => h2 (by rw [← HX.out]; exact h.2.1))
            clear hl
            go_wp2_with fail
            go_meet
            case rel => exact ⟨⟨e, he, rfl, HL⟩, rfl⟩
        · have j0 : ¬ (0 : Int) < (e : Int) := by omega
          have HL : Hid (ends s = e) := left_end hl.out (fun h => h0 h.1)
          clear hl
          go_wp2_with fail
          go_meet
          case rel => exact ⟨⟨e, he, rfl, HL⟩, rfl⟩
    case rest =>
      obtain ⟨⟨E, hE, rfl, HE⟩, rfl⟩ := hcut
      go_upto_block 2 with fail
      go_cut [5, 6, 7, 8] from 35 to 57 (fun v i _ _ wx => OwnB wx w.heap.size v (bitsS s) ∧ Below w.heap.size w wx)
      case first =>
        go_wp2_with fail
        go_loopw [5, 6, 7, 8] (fun v i _ _ wr => ∃ t : Nat, t ≤ E ∧ i = .int .i64 (t : Int) ∧ OwnB wr w.heap.size v ((s.take t).flatMap six) ∧ Below w.heap.size w wr) (fun _ i _ _ _ => E - (intOf i).toNat)
        case atStart => exact ⟨0, by omega, rfl, OwnB.nil _ _, Below.refl _ _⟩
        case round =>
          rename_i v _ _
          obtain ⟨t, ht, rfl, ho, hb⟩ := hrel
          by_cases hlt : t < E
          · have j0 : (t : Int) < (E : Int) := by omega
            have j1 : (0 : Int) ≤ (t : Int) := by omega
            have j2 : t < x := by omega
            have j3 : (t : Int) < (x : Int) := by omega
            have hat := str_at s t (by rw [HS.out]; exact j2)
            have HF : Hid ((s.take (t + 1)).flatMap six = (s.take t).flatMap six ++ six (s.getD t 0)) := flat_snoc s (by rw [HX.out]; exact j2)
            have HA : Hid (((s.take t).flatMap six).length ≤ 6000) := by show _ ≤ _; rw [flat_len]; have := List.length_take_le' t s; have := HX.out; omega
            have HN : Hid (num (s.getD t 0) = 64 → get64 s = ([], 4)) := fun h => get_not H4.out (put_letters (by rw [HE.out]; exact hlt) h)
            generalize (s.take t).flatMap six = A at *
            generalize s.getD t 0 = y at *
            by_cases hy : num y < 64
            · obtain ⟨N, hN⟩ : ∃ N, N = num y := ⟨_, rfl⟩
              have CN : Hid (∀ w, Calls Try.prog 18 #[.int .u8 (y.toNat : Int)] w fun e w' => e = .returned (.int .i64 (N : Int)) ∧ w = w') := fun w => by
                have := rNumber7 w y
                unfold numI at this
                rw [if_pos hy, ← hN] at this
                exact this
              have H6 : Hid (six y = (List.range 6).map fun k => N.testBit (5 - k)) := by show _ = _; rw [hN]; rfl
              have hN64 : N < 64 := by omega
              have k0 : ¬ (N : Int) < 0 := by omega
              clear hN hy HN
              go_wp2_with (go_at_call 18; go_must (refine (CN.out _).mono ?_); rintro e w2 ⟨rfl, rfl⟩)
              rename World => wo
              go_loopw [5, 8] (fun v kk wr => ∃ q : Nat, q ≤ 6 ∧ kk = .int .i64 (5 - (q : Int)) ∧ OwnB wr w.heap.size v (A ++ ((List.range 6).map fun k => N.testBit (5 - k)).take q) ∧ Below w.heap.size w wr) (fun _ kk _ => (intOf kk + 1).toNat)
              case atStart => exact ⟨0, by omega, rfl, by rw [List.take_zero, List.append_nil]; exact ho, hb⟩
              case round =>
                clear ho hb
                obtain ⟨q, hq, rfl, ho, hb⟩ := hrel
                by_cases hq6 : q < 6
                · obtain ⟨k, hk⟩ : ∃ k, k = 5 - q := ⟨_, rfl⟩
                  have HST := map_stepN (fun k => N.testBit (5 - k)) hq6
                  rw [← hk] at HST
                  have l0 : (5 : Int) - (q : Int) = (k : Int) := by omega
                  have l1 : (0 : Int) ≤ (k : Int) := by omega
                  have hr : (A ++ ((List.range 6).map fun k => N.testBit (5 - k)).take q).length + 1 ≤ 1000000000 := by
                    rw [List.length_append, List.length_take, List.length_map, List.length_range]
                    have := HA.out
                    omega
                  obtain ⟨Y, hY⟩ : ∃ Y, Y = N / 2 ^ k := ⟨_, rfl⟩
                  have hY64 : Y < 64 := by rw [hY]; exact Nat.lt_of_le_of_lt (Nat.div_le_self _ _) hN64
                  have d1 : (N : Int) / 2 ^ k = (Y : Int) := by rw [hY, Int.natCast_ediv, Int.natCast_pow]; rfl
                  obtain ⟨Z, hZ⟩ : ∃ Z, Z = Y % 2 := ⟨_, rfl⟩
                  have a1 : bits .and .i64 (Y : Int) 1 = (Z : Int) := by rw [hZ]; exact and1_i64 Y hY64
                  obtain ⟨bit, hbit⟩ : ∃ bit, bit = N.testBit k := ⟨_, rfl⟩
                  have b1 : ((Z : Int) == 1) = bit := by
                    rw [hbit, ← bit_i64 N k, ← hY, ← hZ]
                    rfl
                  rw [← hbit] at HST
                  have HC : Hid (A ++ ((List.range 6).map fun k => N.testBit (5 - k)).take (q + 1) = A ++ ((List.range 6).map fun k => N.testBit (5 - k)).take q ++ [bit]) := by show _ = _; rw [HST, List.append_assoc]
                  have HQ : Hid (k + q = 5) := by show _ = _; omega
                  have hs' := hb.size
                  clear HST hbit hZ hY hk
                  generalize A ++ ((List.range 6).map fun k => N.testBit (5 - k)).take q = C at *
                  go_wp2_with (at_builtin; go_must (refine wpList_bapp (wr.alloc (.cells #[.bool bit] 4)) rfl (.tmp 50) (.tmp 56) rfl w.heap.size _ _ rfl (ho.below (below_alloc _ _) (Nat.le_refl _)) ⟨wr.heap.size, 0, none⟩ 1 1 [bit] rfl (bo_made wr bit) hr (by simp; omega) ?_); intro v2 w2 ho2 hb2)
                  go_roundw
                  case rel => exact ⟨q + 1, by omega, by have := HQ.out; go_num, by rw [HC.out]; exact ho2, (hb.alloc hs' _).trans hb2⟩
                  case measure => simp [intOf]; omega
                · obtain rfl : q = 6 := by omega
                  have l0 : (5 : Int) - ((6 : Nat) : Int) = -1 := by omega
                  rw [List.take_of_length_le (by simp), ← H6.out, ← HF.out] at ho
                  rw [l0]
                  go_wp2_with fail
                  go_roundw
                  case rel => exact ⟨t + 1, by omega, by go_num, ho, hb⟩
                  case measure => simp [intOf]; omega
            · have HG : Hid (get64 s = ([], 4)) := HN.out (by have := num_le y; omega)
              have CN : Hid (∀ w, Calls Try.prog 18 #[.int .u8 (y.toNat : Int)] w fun e w' => e = .returned (.int .i64 (-1)) ∧ w = w') := fun w => by
                have := rNumber7 w y
                unfold numI at this
                rw [if_neg hy] at this
                exact this
              clear hy HN
              go_wp2_with (go_at_call 18; go_must (refine (CN.out _).mono ?_); rintro e w2 ⟨rfl, rfl⟩)
              go_ret2
              exact GivesG.none HG.out hb
          · obtain rfl : t = E := by omega
            have j0 : ¬ (t : Int) < (t : Int) := by omega
            have HB : Hid (bitsS s = (s.take t).flatMap six) := by show _ = _; unfold bitsS; rw [HE.out]
            go_wp2_with fail
            go_meet
            case rel => exact ⟨by rw [HB.out]; exact ho, hb⟩
      case rest =>
        obtain ⟨ho5, hb5⟩ := hcut
        obtain ⟨a5, c5, rfl, hB5, _⟩ := ho5.bo
        obtain ⟨m6, hm6⟩ : ∃ m6, m6 = 6 * E := ⟨_, rfl⟩
        have m6000 : m6 ≤ 6000 := by omega
        have HLL : Hid ((bitsS s).length = m6) := by
          show _ = _
          rw [hm6]
          unfold bitsS
          rw [HE.out, flat_len, List.length_take, HX.out]
          omega
        have HD : Hid (dec64 s = bytesB (bitsS s)) := rfl
        have HG : Hid (get64 s = if put64 (dec64 s) = s then (dec64 s, 0) else ([], 4)) := by
          show _ = _
          unfold get64
          rw [if_neg (by have := H4.out; omega)]
        generalize bitsS s = L at *
        rw [HLL.out] at hB5 ⊢
        have HBL : Hid ((bytesB L).length = m6 / 8) := by show _ = _; unfold bytesB; rw [List.length_map, List.length_range, HLL.out]
        have HBA : Hid (∀ t, t < m6 / 8 → (bytesB L).take (t + 1) = (bytesB L).take t ++ [UInt8.ofNat (valN L (8 * t) 8)]) := fun t ht => by
          unfold bytesB
          rw [HLL.out]
          exact map_stepN _ ht
        rw [← HD.out] at HBL HBA
        generalize dec64 s = D at *
        obtain ⟨n8, hn8⟩ : ∃ n8, n8 = m6 / 8 := ⟨_, rfl⟩
        rw [← hn8] at HBL HBA
        have HN8 : Hid (n8 = m6 / 8) := hn8
        clear hn8 ho5 hm6
        go_wp2_with fail
        go_loopw [9, 10] (fun v i wr => ∃ (t : Nat) (X : List UInt8), t ≤ n8 ∧ i = .int .i64 ((8 * t : Nat) : Int) ∧ Own wr wc.heap.size v X ∧ Below wc.heap.size wc wr ∧ Hid (X = D.take t)) (fun _ i _ => m6 - (intOf i).toNat)
        case atStart => exact ⟨0, [], by omega, rfl, Own.nil _ _, Below.refl _ _, by show _ = _; simp⟩
        case round =>
          obtain ⟨t, X, ht, rfl, ho, hb, HXX⟩ := hrel
          obtain ⟨p, hp⟩ : ∃ p, p = 8 * t := ⟨_, rfl⟩
          rw [← hp]
          by_cases hlt : t < n8
          · obtain ⟨y, hy⟩ : ∃ y, y = UInt8.ofNat (valN L p 8) := ⟨_, rfl⟩
            have hV := valN_lt L p 8
            have CV : Hid (Calls Try.prog 17 #[.slice a5 m6 c5, .int .i64 (p : Int), .int .i64 8] wr fun e w' => e = .returned (.int .i64 (y.toNat : Int)) ∧ wr = w') := by
              show Calls _ _ _ _ _
              rw [hy, nat_byte hV]
              exact rValue7 wr (hB5.below hb (Nat.le_refl _)) p 8 (by have := HN8.out; omega) (by omega)
            have HN : Hid (D.take (t + 1) = X ++ [y]) := by show _ = _; rw [HBA.out t hlt, HXX.out, hy, hp]
            have hr : X.length + [y].length ≤ 1000000000 := by
              rw [HXX.out]
              have := List.length_take_le' t D
              have := HBL.out
              have := HN8.out
              simp only [List.length_cons, List.length_nil]
              omega
            have i0 : (p : Int) + 8 ≤ (m6 : Int) := by have := HN8.out; omega
            have y0 : (0 : Int) ≤ (y.toNat : Int) := by omega
            have y1 := b_lt y
            have y2 : IntKind.u8.wrap (y.toNat : Int) = (y.toNat : Int) := by rw [IntKind.wrap_u8]; omega
            have y3 : (y.toNat : Int) % 256 = (y.toNat : Int) := by omega
            have hs' := hb.size
            have HP : Hid (p = 8 * t) := hp
            have hpE : p < m6 := by have := HN8.out; omega
            clear hy hV hp HXX
            go_wp2_with (first
              | (go_at_call 17; go_must (refine CV.out.mono ?_); rintro e w2 ⟨rfl, rfl⟩)
              | (at_builtin; go_must (refine wpList_app (wr.alloc (.cells #[.int .u8 (y.toNat : Int)] 5)) rfl (.tmp 65) (.tmp 70) rfl wc.heap.size _ X rfl (ho.below (below_alloc _ _) (Nat.le_refl _)) (some ⟨wr.heap.size, 0, none⟩) 1 1 [y] rfl (Bs.made wr [y] _ rfl (by simp)) hr (by simp; omega) ?_); intro v3 w3 ho3 hb3))
            go_roundw
            case rel => exact ⟨t + 1, X ++ [y], by omega, by have := HP.out; go_num, ho3, (hb.alloc hs' _).trans hb3, by show _ = _; rw [HN.out]⟩
            case measure => simp [intOf]; omega
          · obtain rfl : t = n8 := by omega
            rw [List.take_of_length_le (by rw [HBL.out]; omega)] at HXX
            have p6 : p ≤ 6000 := by have := HN8.out; omega
            have i0 : ¬ (p : Int) + 8 ≤ (m6 : Int) := by have := HN8.out; omega
            obtain ⟨ap, mp, cp, rfl, hBp⟩ := ho.bs3
            have hXD : X = D := HXX.out
            subst hXD
            have hmp : mp ≤ 1000 := by rw [← hBp.len, HBL.out]; have := HN8.out; omega
            have CP : Hid (Calls Try.prog 9 #[.slice ap mp cp] wr fun e w' => e = .returned (.string ⟨(put64 X).toArray⟩) ∧ Below wr.heap.size wr w') := rPut7 wr hBp hmp
            have hq : Below w.heap.size w wr := hb5.trans (hb.mono hb5.size)
            have hwc := hb5.size
            clear hp
            by_cases hps : put64 X = s
            · rw [if_pos hps] at HG
              rw [hps] at CP
              clear hps
              go_wp2_with (go_at_call 9; go_must (refine CP.out.mono ?_); rintro e w4 ⟨rfl, hb4⟩)
              go_ret2
              rw [HG.out]
              exact ⟨ap, mp, cp, rfl, (ho.below hb4 (Nat.le_refl _)).mono hwc, hq.trans (hb4.mono hq.size)⟩
            · rw [if_neg hps] at HG
              have e1 : (put64 X == s) = false := beq_eq_false_iff_ne.2 hps
              generalize put64 X = PX at *
              go_wp2_with (go_at_call 9; go_must (refine CP.out.mono ?_); rintro e w4 ⟨rfl, hb4⟩)
              go_ret2
              exact GivesG.none HG.out (hq.trans (hb4.mono hq.size))
  · have hne : ((r : Int) != 0) = true := by simp; omega
    have HG : Hid (get64 s = ([], 3)) := get_short (by omega)
    clear hx hr h4 hz
    go_enter Try.func11, Try.ntmps11
    go_wp2_with fail
    go_ret2
    exact GivesG.none HG.out (Below.refl _ _)

end Go.Proofs.Ytmnlcmgkhgckcaa
