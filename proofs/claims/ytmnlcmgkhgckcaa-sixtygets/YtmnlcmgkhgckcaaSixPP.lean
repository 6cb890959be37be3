/-
  The contract of layer 7's Put. Condition: at most 1000 bytes.
-/
import Derived.Test.YtmnlcmgkhgckcaaSixPA
import Derived.Test.YtmnlcmgkhgckcaaStrO
import Derived.Lib.AppendStr
namespace Go.Proofs.Ytmnlcmgkhgckcaa
open Go.RowKit

/-- append of a text's bytes. -/
theorem wpList_sapp {ops : Array Oper} {rest : List Oper} {o : Oper} {a : Act} {Q : Exit → Act → World → Prop} (w : World) (hgd : o.guard = none) (s x : Operand)
    (ho : o.op = Op.call { callee := Callee.builtin Builtin.append, args := #[s, x], argTypes := #[22, 9] }) (base : Nat) (v : Value) (l : List UInt8) (hs : a.eval s = v) (hown : Own w base v l)
    (news : List UInt8) (hx : a.eval x = .string ⟨news.toArray⟩) (hz : l.length + news.length ≤ 1000000000) (hbase : base ≤ w.heap.size)
    (h : ∀ v' w', Own w' base v' (l ++ news) → Below base w w' → wpList Try.prog ops Q rest (a.put o.dst v') w') : wpList Try.prog ops Q (o :: rest) a w := by
  obtain ⟨i0, hi, hz0, hz1, hz2⟩ := info_parts info5
  have hl := str_size news
  refine Lib.wpList_append_own_string w hgd s x 22 9 ho base 5 i0 Try.underlying22 Try.underlying9 hi hz0 hz1 hz2 v _ _ hs hown ⟨news.toArray⟩ hx (by unfold maxLen; omega) (by omega) hbase ?_
  intro v' w' ho' hg _
  refine h v' w' ?_ ((Below.refl _ _).grown hg hbase (Own.size hown))
  unfold Own
  rw [cs_append, List.length_append]
  rw [hl] at ho'
  exact ho'

theorem body_take (b : List UInt8) {m : Nat} (h : m < sixN b.length) : (body b).take (m + 1) = (body b).take m ++ [sext (bitsL b) m] := by
  unfold body
  exact map_stepN _ h

/-- How long a slice is. -/
def putLen : Value → Nat | .slice _ n _ => n | _ => 0

set_option maxRecDepth 100000 in
set_option maxHeartbeats 4000000 in
theorem oPut7 (w : World) {a : Option Addr} {n c : Nat} {b : List UInt8} (ha : Bs w a n c b) (hn : n ≤ 1000) : Calls Try.prog 7 #[.slice a n c] w fun e w' => e = .returned (.string ⟨(put64 b).toArray⟩) ∧ Below w.heap.size w w' := by
  have HL : Hid (b.length = n) := ha.len
  obtain ⟨L, hLL⟩ : ∃ L, L = bitsL b := ⟨_, rfl⟩
  obtain ⟨M, hM⟩ : ∃ M, M = sixN n := ⟨_, rfl⟩
  have HM : Hid (6 * M ≤ 8 * n + 5 ∧ 8 * n ≤ 6 * M) := by show _ ∧ _; rw [hM]; unfold sixN; omega
  have HBL : Hid ((body b).length = M) := by show _ = _; rw [body_length, HL.out, hM]
  have HBT : Hid (∀ m, m < M → (body b).take (m + 1) = (body b).take m ++ [lt (valN L (6 * m) 6)]) := fun m hm => by
    rw [body_take b (by rw [HL.out, ← hM]; exact hm), hLL]
    rfl
  have HBY : Hid (∀ k, k < n → valN L (8 * k) 8 = (b.getD k 0).toNat) := fun k hk => by rw [hLL]; exact valN_bitsL b (by rw [HL.out]; exact hk)
  have HND : Hid (∀ k, valN L (8 * n) k = 0) := fun k => by
    rw [hLL]
    exact valN_none (fun q _ => bitsL_end b (by rw [HL.out]; omega))
  have HPUT : Hid (put64 b = body b ++ List.replicate ((4 - M % 4) % 4) 61) := by show _ = _; unfold put64; rw [HL.out, hM]
  generalize put64 b = PB at *
  generalize body b = BD at *
  clear hLL hM
  obtain ⟨cap, hcap⟩ : ∃ cap, cap = (n + 2) / 3 * 4 := ⟨_, rfl⟩
  have c1 : (n : Int) + 3 - 1 = ((n + 2 : Nat) : Int) := by omega
  have c2 : (((n + 2 : Nat) : Int)).tdiv 3 = (((n + 2) / 3 : Nat) : Int) := by rw [Int.tdiv_eq_ediv_of_nonneg (by omega)]; omega
  have c3 : (((n + 2) / 3 : Nat) : Int) * 4 = (cap : Int) := by omega
  have hc1 : cap ≤ 1000000 := by omega
  go_enter Try.func7, Try.ntmps7
  clear hcap
  go_wp2_with (at_make; refine wpList_mk0 _ rfl _ _ rfl w.heap.size _ rfl rfl (by omega) (by omega) (Nat.le_refl _) ?_; intro v1 w1 hown hbel)
  clear c1 c2 c3 hc1
  go_loopw [3, 4, 5, 7, 17] (fun v h q _ i wr => ∃ (k m C H : Nat) (X : List UInt8), k ≤ n ∧ i = .int .i64 (k : Int) ∧ q = .int .i64 (C : Int) ∧ h = .int .i32 (H : Int) ∧ C < 6 ∧ H < 64 ∧ Hid (8 * k = 6 * m + C ∧ H = valN L (6 * m) C ∧ X = BD.take m) ∧ Own wr w.heap.size v X ∧ Below w.heap.size w wr) (fun _ _ _ _ i _ => n - (intOf i).toNat)
  case atStart => exact ⟨0, 0, 0, 0, [], by omega, rfl, rfl, rfl, by omega, by omega, ⟨rfl, rfl, by simp⟩, hown, hbel⟩
  case round =>
    clear hown hbel
    obtain ⟨k, m, C, H, X, hk, rfl, rfl, rfl, hC, hH, HI, ho, hb⟩ := hrel
    by_cases hlt : k < n
    · obtain ⟨x, o, rfl, hx, hc⟩ := ha.at (by omega)
      have cx : wr.cell? ⟨x, o + k, none⟩ = some (.int .u8 (bt b k)) := by rw [hb.cell (p := ⟨x, o + k, none⟩) hx]; exact hc k (by omega)
      obtain ⟨y, hy⟩ : ∃ y, y = b.getD k 0 := ⟨_, rfl⟩
      have by1 : bt b k = (y.toNat : Int) := by rw [hy]; rfl
      rw [by1] at cx
      have y1 := b_lt y
      have HV : Hid (valN L (8 * k) 8 = y.toNat) := by rw [hy]; exact HBY.out k hlt
      obtain ⟨Pq, hPq⟩ : ∃ Pq, Pq = H * 2 ^ 8 := ⟨_, rfl⟩
      have s2 : (H : Int) * 256 = (Pq : Int) := by omega
      obtain ⟨G, hG⟩ : ∃ G, G = Pq + y.toNat := ⟨_, rfl⟩
      have s3 : bits .or .i32 (Pq : Int) (y.toNat : Int) = (G : Int) := by rw [hG, hPq]; exact or_low H 8 y.toNat (by omega) (by omega) (by omega)
      have w1 : IntKind.i32.wrap (Pq : Int) = (Pq : Int) := by rw [IntKind.wrap_i32]; omega
      have w2 : IntKind.i32.wrap (y.toNat : Int) = (y.toNat : Int) := by rw [IntKind.wrap_i32]; omega
      have HG : Hid (G = H * 2 ^ 8 + y.toNat) := by show _ = _; rw [hG, hPq]
      have j0 : (k : Int) < (n : Int) := by omega
      clear hy hc by1 hG hPq
      go_wp2_with fail
      rename World => wo
      have hs0 := hb.size
      go_loopw [3, 4, 5] (fun v h q wr => ∃ (m C H : Nat) (X : List UInt8), q = .int .i64 (C : Int) ∧ h = .int .i32 (H : Int) ∧ C < 14 ∧ H < 16384 ∧ Hid (8 * (k + 1) = 6 * m + C ∧ H = valN L (6 * m) C ∧ X = BD.take m) ∧ Own wr w.heap.size v X ∧ Below w.heap.size w wr) (fun _ _ q _ => (intOf q).toNat)
      case atStart =>
        refine ⟨m, C + 8, G, X, by go_num, rfl, by omega, by have := HG.out; omega, ⟨by have := HI.out.1; omega, ?_, HI.out.2.2⟩, ho, hb⟩
        rw [HG.out, HI.out.2.1, valN_add, show 6 * m + C = 8 * k from HI.out.1.symm, HV.out]
      case round =>
        clear ho HI HG s2 s3 w1 w2 hb HV cx hC hH
        obtain ⟨m, C, H, X, rfl, rfl, hC, hH, HI, ho, hb⟩ := hrel
        by_cases h6 : C < 6
        · have i6 : ¬ (6 : Int) ≤ (C : Int) := by omega
          have HH : Hid (H < 64) := by
            show _ < _
            rw [HI.out.2.1]
            exact Nat.lt_of_lt_of_le (valN_lt _ _ _) (Nat.pow_le_pow_right (n := 2) (by decide) (show C ≤ 6 by omega))
          go_wp2_with fail
          go_roundw
          case rel => exact ⟨k + 1, m, C, H, X, by omega, by go_num, rfl, rfl, h6, HH.out, HI, ho, hb⟩
          case measure => simp [intOf]; omega
        · obtain ⟨D, hD⟩ : ∃ D, D = C - 6 := ⟨_, rfl⟩
          have i6 : (6 : Int) ≤ (C : Int) := by omega
          have i7 : (C : Int) - 6 = (D : Int) := by omega
          have i8 : (0 : Int) ≤ (D : Int) := by omega
          have i9 : D < 32 := by omega
          obtain ⟨V, hV⟩ : ∃ V, V = valN L (6 * m) 6 := ⟨_, rfl⟩
          have hV64 : V < 64 := by rw [hV]; exact valN_lt L _ 6
          have HC : Hid (C = 6 + D) := by show _ = _; omega
          have d0 : H / 2 ^ D = V := by rw [HI.out.2.1, HC.out, valN_div, hV]
          have d1 : (H : Int) / 2 ^ D = (V : Int) := by rw [← d0, Int.natCast_ediv, Int.natCast_pow]; rfl
          obtain ⟨R, hR⟩ : ∃ R, R = H % 2 ^ D := ⟨_, rfl⟩
          have HR : Hid (R = valN L (6 * (m + 1)) D) := by show _ = _; rw [hR, HI.out.2.1, HC.out, valN_mod]; rfl
          have hRle : R ≤ H := by rw [hR]; exact Nat.mod_le _ _
          obtain ⟨y, hy⟩ : ∃ y, y = lt V := ⟨_, rfl⟩
          have CL : Hid (∀ w, Calls Try.prog 12 #[.int .i32 (V : Int)] w fun e w' => e = .returned (.int .i32 (y.toNat : Int)) ∧ w = w') := fun w => by rw [hy]; exact oLetter w V hV64
          have CW : Hid (∀ w, Calls Try.prog 13 #[.int .i32 (H : Int), .int .i64 (D : Int)] w fun e w' => e = .returned (.int .i32 (R : Int)) ∧ w = w') := fun w => by rw [hR]; exact oLowest w H D (by omega) (by omega)
          have hmM : m < M := by have := HI.out.1; have := HM.out; omega
          have HX : Hid (BD.take (m + 1) = X ++ [y]) := by show _ = _; rw [HBT.out m hmM, ← HI.out.2.2, hy, hV]
          have HI1 : Hid (8 * (k + 1) = 6 * (m + 1) + D) := by show _ = _; have := HI.out.1; have := HC.out; omega
          have hr : X.length + [y].length ≤ 1000000000 := by
            rw [HI.out.2.2]
            have := List.length_take_le' m BD
            have := HBL.out
            have := HM.out
            simp only [List.length_cons, List.length_nil]
            omega
          have y1 := b_lt y
          have y2 : IntKind.u8.wrap (y.toNat : Int) = (y.toNat : Int) := by rw [IntKind.wrap_u8]; omega
          have y3 : (y.toNat : Int) % 256 = (y.toNat : Int) := by omega
          have hs' := hb.size
          have hDC : D < C := by omega
          have hD14 : D < 14 := by omega
          clear hy hV hD d0 hR HC h6 HI
          go_wp2_with (first
            | (go_at_call 12; go_must (refine (CL.out _).mono ?_); rintro e w2 ⟨rfl, rfl⟩)
            | (go_at_call 13; go_must (refine (CW.out _).mono ?_); rintro e w2 ⟨rfl, rfl⟩)
            | (at_builtin; go_must (refine wpList_app (wr.alloc (.cells #[.int .u8 (y.toNat : Int)] 5)) rfl (.tmp 32) (.tmp 38) rfl w.heap.size _ X rfl (ho.below (below_alloc _ _) (Nat.le_refl _)) (some ⟨wr.heap.size, 0, none⟩) 1 1 [y] rfl (Bs.made wr [y] _ rfl (by simp)) hr (by simp; omega) ?_); intro v3 w3 ho3 hb3))
          go_roundw
          case rel => exact ⟨m + 1, D, R, X ++ [y], rfl, rfl, hD14, by omega, ⟨HI1.out, HR.out, HX.out.symm⟩, ho3, (hb.alloc hs' _).trans hb3⟩
          case measure => simp [intOf]; omega
    · obtain rfl : k = n := by omega
      have j0 : ¬ (k : Int) < (k : Int) := by omega
      clear hlt
      by_cases hC0 : C = 0
      · subst hC0
        have hmM : m = M := by have := HI.out.1; have := HM.out; omega
        have HXB : X = BD := by rw [HI.out.2.2, List.take_of_length_le (by rw [HBL.out]; omega)]
        rw [HXB] at ho
        have g0 : ¬ (0 : Int) < ((0 : Nat) : Int) := by omega
        clear HI hmM HXB
        go_wp2_with fail
        rename World => wo
        go_loopw [3] (fun v wr => ∃ (q : Nat) (X : List UInt8), q ≤ (4 - M % 4) % 4 ∧ Hid (X = BD ++ List.replicate q 61) ∧ Own wr w.heap.size v X ∧ Below w.heap.size w wr) (fun v _ => M + 4 - putLen v)
        case atStart => exact ⟨0, BD, by omega, by show _ = _; simp, ho, hb⟩
        case round =>
          obtain ⟨q, Y, hq, HY, hoy, hby⟩ := hrel
          obtain ⟨ap, mp, cp, rfl, hBp⟩ := hoy.bs3
          have hmp : mp = M + q := by rw [← hBp.len, HY.out, List.length_append, List.length_replicate, HBL.out]
          obtain ⟨r, hrr⟩ : ∃ r, r = mp % 4 := ⟨_, rfl⟩
          have t1 : (mp : Int).tmod 4 = (r : Int) := by rw [Int.tmod_eq_emod_of_nonneg (by omega)]; omega
          have t2 : (mp : Int) % 4 = (r : Int) := by omega
          have hmp4 : mp ≤ 4000 := by have := HM.out; omega
          by_cases hlq : q < (4 - M % 4) % 4
          · have hne : ((r : Int) != 0) = true := by simp; omega
            have hz : Y.length + [61].length ≤ 1000000000 := by rw [hBp.len]; simp only [List.length_cons, List.length_nil]; omega
            have HZ : Hid (Y ++ [61] = BD ++ List.replicate (q + 1) 61) := by show _ = _; rw [HY.out, List.append_assoc, List.replicate_succ']
            have hs' := hby.size
            have HMP : Hid (mp = M + q) := hmp
            have HQ : Hid (q + 1 ≤ (4 - M % 4) % 4) := by show _ ≤ _; omega
            clear hmp hlq hrr hq
            go_wp2_with (at_builtin; go_must (refine wpList_sapp wr rfl (.tmp 59) (.const (.string ⟨#[61]⟩)) rfl w.heap.size _ Y rfl hoy [61] rfl hz hs' ?_); intro v4 w4 ho4 hb4)
            go_roundw
            case rel => exact ⟨q + 1, Y ++ [61], HQ.out, HZ, ho4, hby.trans hb4⟩
            case measure =>
              obtain ⟨ap4, mp4, cp4, rfl, hB4⟩ := ho4.bs3
              have e4 := hB4.len
              rw [List.length_append, hBp.len, HMP.out] at e4
              have := HMP.out
              have := HQ.out
              simp only [List.length_cons, List.length_nil] at e4
              show M + 4 - mp4 < M + 4 - mp
              omega
          · have hqe : q = (4 - M % 4) % 4 := by omega
            have hne : ((r : Int) != 0) = false := by simp; omega
            have HZ : Hid (Y = PB) := by show _ = _; rw [HY.out, HPUT.out, hqe]
            have hstr := hoy.str
            clear hmp hlq hrr hq hqe
            go_wp2_with fail
            go_ret
            exact ⟨ret_str HZ.out, hby⟩
      · obtain ⟨D, hD⟩ : ∃ D, D = 6 - C := ⟨_, rfl⟩
        have g0 : (0 : Int) < (C : Int) := by omega
        have i7 : (6 : Int) - (C : Int) = (D : Int) := by omega
        have i8 : (0 : Int) ≤ (D : Int) := by omega
        have i9 : D < 32 := by omega
        obtain ⟨V, hV⟩ : ∃ V, V = valN L (6 * m) 6 := ⟨_, rfl⟩
        have hV64 : V < 64 := by rw [hV]; exact valN_lt L _ 6
        have d0 : H * 2 ^ D = V := by
          have e6 : valN L (6 * m) 6 = valN L (6 * m) (C + D) := by rw [show C + D = 6 from by omega]
          rw [hV, e6, valN_add, ← show H = valN L (6 * m) C from HI.out.2.1, show 6 * m + C = 8 * k from HI.out.1.symm, HND.out D, Nat.add_zero]
        have d1 : (H : Int) * 2 ^ D = (V : Int) := by rw [← d0, Int.natCast_mul, Int.natCast_pow]; rfl
        have d2 : IntKind.i32.wrap (V : Int) = (V : Int) := by rw [IntKind.wrap_i32]; omega
        obtain ⟨y, hy⟩ : ∃ y, y = lt V := ⟨_, rfl⟩
        have CL : Hid (∀ w, Calls Try.prog 12 #[.int .i32 (V : Int)] w fun e w' => e = .returned (.int .i32 (y.toNat : Int)) ∧ w = w') := fun w => by rw [hy]; exact oLetter w V hV64
        have hmM : m + 1 = M := by have := HI.out.1; have := HM.out; omega
        have HX : Hid (X ++ [y] = BD) := by
          show _ = _
          have := HBT.out m (by omega)
          rw [← HI.out.2.2, ← hV, ← hy, hmM, List.take_of_length_le (by rw [HBL.out]; omega)] at this
          exact this.symm
        have hr : X.length + [y].length ≤ 1000000000 := by
          rw [HI.out.2.2]
          have := List.length_take_le' m BD
          have := HBL.out
          have := HM.out
          simp only [List.length_cons, List.length_nil]
          omega
        have y1 := b_lt y
        have y2 : IntKind.u8.wrap (y.toNat : Int) = (y.toNat : Int) := by rw [IntKind.wrap_u8]; omega
        have y3 : (y.toNat : Int) % 256 = (y.toNat : Int) := by omega
        have hs' := hb.size
        clear hy hV hD d0 HI hC0
        go_wp2_with (first
          | (go_at_call 12; go_must (refine (CL.out _).mono ?_); rintro e w2 ⟨rfl, rfl⟩)
          | (at_builtin; go_must (refine wpList_app (wr.alloc (.cells #[.int .u8 (y.toNat : Int)] 5)) rfl (.tmp 46) (.tmp 53) rfl w.heap.size _ X rfl (ho.below (below_alloc _ _) (Nat.le_refl _)) (some ⟨wr.heap.size, 0, none⟩) 1 1 [y] rfl (Bs.made wr [y] _ rfl (by simp)) hr (by simp; omega) ?_); intro v3 w3 ho3 hb3))
        have hb9 := (hb.alloc hs' (.cells #[.int .u8 (y.toNat : Int)] 5)).trans hb3
        clear hb3 hs' hr CL
        rw [HX.out] at ho3
        rename World => wo
        go_loopw [3] (fun v wr => ∃ (q : Nat) (X : List UInt8), q ≤ (4 - M % 4) % 4 ∧ Hid (X = BD ++ List.replicate q 61) ∧ Own wr w.heap.size v X ∧ Below w.heap.size w wr) (fun v _ => M + 4 - putLen v)
        case atStart => exact ⟨0, BD, by omega, by show _ = _; simp, ho3, hb9⟩
        case round =>
          obtain ⟨q, Y, hq, HY, hoy, hby⟩ := hrel
          obtain ⟨ap, mp, cp, rfl, hBp⟩ := hoy.bs3
          have hmp : mp = M + q := by rw [← hBp.len, HY.out, List.length_append, List.length_replicate, HBL.out]
          obtain ⟨r, hrr⟩ : ∃ r, r = mp % 4 := ⟨_, rfl⟩
          have t1 : (mp : Int).tmod 4 = (r : Int) := by rw [Int.tmod_eq_emod_of_nonneg (by omega)]; omega
          have t2 : (mp : Int) % 4 = (r : Int) := by omega
          have hmp4 : mp ≤ 4000 := by have := HM.out; omega
          by_cases hlq : q < (4 - M % 4) % 4
          · have hne : ((r : Int) != 0) = true := by simp; omega
            have hz : Y.length + [61].length ≤ 1000000000 := by rw [hBp.len]; simp only [List.length_cons, List.length_nil]; omega
            have HZ : Hid (Y ++ [61] = BD ++ List.replicate (q + 1) 61) := by show _ = _; rw [HY.out, List.append_assoc, List.replicate_succ']
            have hs' := hby.size
            have HMP : Hid (mp = M + q) := hmp
            have HQ : Hid (q + 1 ≤ (4 - M % 4) % 4) := by show _ ≤ _; omega
            clear hmp hlq hrr hq
            go_wp2_with (at_builtin; go_must (refine wpList_sapp wr rfl (.tmp 59) (.const (.string ⟨#[61]⟩)) rfl w.heap.size _ Y rfl hoy [61] rfl hz hs' ?_); intro v4 w4 ho4 hb4)
            go_roundw
            case rel => exact ⟨q + 1, Y ++ [61], HQ.out, HZ, ho4, hby.trans hb4⟩
            case measure =>
              obtain ⟨ap4, mp4, cp4, rfl, hB4⟩ := ho4.bs3
              have e4 := hB4.len
              rw [List.length_append, hBp.len, HMP.out] at e4
              have := HMP.out
              have := HQ.out
              simp only [List.length_cons, List.length_nil] at e4
              show M + 4 - mp4 < M + 4 - mp
              omega
          · have hqe : q = (4 - M % 4) % 4 := by omega
            have hne : ((r : Int) != 0) = false := by simp; omega
            have HZ : Hid (Y = PB) := by show _ = _; rw [HY.out, HPUT.out, hqe]
            have hstr := hoy.str
            clear hmp hlq hrr hq hqe
            go_wp2_with fail
            go_ret
            exact ⟨ret_str HZ.out, hby⟩

end Go.Proofs.Ytmnlcmgkhgckcaa
