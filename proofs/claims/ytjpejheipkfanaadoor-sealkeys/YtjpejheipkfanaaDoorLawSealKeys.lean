/-
  Proved: for any two small numbers, any two lists of rows of bytes and any acts the statement SealKeys of layer 12 answers true and leaves its arguments as they were. Conditions beside the statement's own: none; the card ties sha.roundConstants to the pruned copy of the program's text.
-/
import Derived.Test.YtjpejheipkfanaaDoorRows
import Derived.Test.YtjpejheipkfanaaDoorCards
import Derived.Test.YtjpejheipkfanaaDoorTie
import Derived.Test.YtjpejheipkfanaaDoorG22
import Derived.Below
import Derived.ChangeOld
import Derived.Deep.DeepHandedRow
import Derived.Lib.LaidTab
namespace Go.Proofs.YtjpejheipkfanaaDoor
namespace SealKeysLaw
open Go.ChangeShapes Go.WideShapes Go.ChangeAt Go.RowKit
open Go.ChangeMaps (open_string shut_string)
set_option linter.unusedVariables false

theorem own : ownKnob Tryd.prog.godebug = none := by kernel_rfl
theorem laidOut : laidOutB Tryd.prog = true := by kernel_rfl
theorem gTab : Tryd.prog.globalNamed "deedbox/sha.roundConstants" = some 0 := by kernel_rfl
theorem gTabType : (Tryd.prog.globals[0]?).map (·.type) = some 144 := by kernel_rfl
theorem cellsT : Tryd.prog.cellsOf 144 = 64 := by kernel_rfl
theorem cellsE : Tryd.prog.cellsOf 33 = 1 := by kernel_rfl

/-- What the row's list gives: the constants lie in their variable. -/
theorem table {W : World} (h : laidMetH Tryd.prog Rows.sealKeysRow.laid W) : Lib.TabIs Tryd.prog W "deedbox/sha.roundConstants" .u32 (sKs.map fun x => (x.toNat : Int)) :=
  Lib.tabIs_of_head (rest := []) gTab gTabType Tryd.underlying144 Tryd.underlying33 cellsE cellsT h
theorem kon {W : World} (h : laidMetH Tryd.prog Rows.sealKeysRow.laid W) : Kon W := fun j v hv => by
  have hj : j < sKs.length := by have := (List.getElem?_eq_some_iff.1 hv).1; rwa [ws_length] at this
  have hc := (table h).cell gTab j (by rw [List.length_map]; exact hj)
  rw [Nat.zero_add, hc, ← hv]
  simp [ws, hj]

set_option maxRecDepth 100000 in
set_option maxHeartbeats 4000000 in
theorem walk (a0 : Int) (a1 : Int) (a2 : Option Addr) (len2 cap2 : Nat) (l2 : List (List UInt8)) (a3 : Option Addr) (len3 cap3 : Nat) (l3 : List (List UInt8)) (a4 : Option Addr) (len4 cap4 : Nat) (l4 : List Op12) (w : World) (hK : Kon w) (w0 : (Lit.int .u8 a0).wf = true) (w1 : (Lit.int .u8 a1).wf = true) (w2 : Bss w a2 len2 cap2 l2) (w3 : Bss w a3 len3 cap3 l3) (w4 : Acts12 w a4 len4 cap4 l4) :
    Calls Tryd.prog 5 #[.int .u8 a0, .int .u8 a1, .slice a2 len2 cap2, .slice a3 len3 cap3, .slice a4 len4 cap4] w fun e w' => e = .returned (.bool true) ∧ Below w.heap.size w w' := by
  have b0 := bounds_u8 w0
  have b1 := bounds_u8 w1
  obtain ⟨A, rfl⟩ : ∃ A : Nat, a0 = A := ⟨a0.toNat, by omega⟩
  obtain ⟨B, rfl⟩ : ∃ B : Nat, a1 = B := ⟨a1.toNat, by omega⟩
  have hA : A ≤ 255 := by omega
  have hB : B ≤ 255 := by omega
  have HW2 : Hid (Bss w a2 len2 cap2 l2) := w2
  have HW3 : Hid (Bss w a3 len3 cap3 l3) := w3
  have HW4 : Hid (Acts12 w a4 len4 cap4 l4) := w4
  have hm4 := Sl.cap w4
  have hl4 : l4.length = len4 := Sl.len w4
  clear w0 w1 w2 w3 w4 b0 b1 hK
  go_enter Tryd.func5, Tryd.ntmps5
  go_wp2_with fail
  refine (lShort w HW2.out).mono ?_
  rintro e u1 ⟨r1, rfl, rfl, h1⟩
  rcases h1 with rfl | ⟨rfl, hn2, ht2⟩
  · go_wp2_with fail
    refine (lWorks12 w).mono ?_
    rintro e wz ⟨rfl, hbz⟩
    go_wp2_with fail
    go_ret
    exact ⟨rfl, hbz⟩
  go_wp2_with fail
  refine (lShort w HW3.out).mono ?_
  rintro e u1 ⟨r1, rfl, rfl, h1⟩
  rcases h1 with rfl | ⟨rfl, hn3, ht3⟩
  · go_wp2_with fail
    refine (lWorks12 w).mono ?_
    rintro e wz ⟨rfl, hbz⟩
    go_wp2_with fail
    go_ret
    exact ⟨rfl, hbz⟩
  go_wp2_with fail
  refine (lLight12 w HW4.out 20 (by omega) (by omega)).mono ?_
  rintro e u1 ⟨v, rfl, hv, rfl⟩
  cases v with
  | false =>
    go_wp2_with fail
    refine (lWorks12 w).mono ?_
    rintro e wz ⟨rfl, hbz⟩
    go_wp2_with fail
    go_ret
    exact ⟨rfl, hbz⟩
  | true =>
    obtain ⟨hn4, hv4⟩ := hv rfl
    have HV : Hid (∀ o ∈ l4, o.beside.length ≤ 60 ∧ o.text.length ≤ 60) := hv4
    have hn4' : len4 ≤ 20 := by omega
    clear hv hv4 hn4
    go_wp2_with fail
    refine (oSNew true w).mono ?_
    rintro e v1 ⟨s, U, M, rfl, hs1, hU1, hb1⟩
    have T1 : Hid (StaS w v1 s U (SeaS.new true) M) := StaS.first (Below.refl _ w) hs1 hU1 hb1
    clear hs1 hU1 hb1
    go_wp2_with fail
    refine (lKey12 v1 A hA).mono ?_
    rintro e v2 ⟨g2, rfl, _, o2, hb2⟩
    have K2 := o2.toBs
    have T2 : Hid (StaS w v2 s U (SeaS.new true) M) := T1.out.grow hb2
    clear T1 o2 hb2
    go_wp2_with fail
    have CD := oSDeriveI v2 T2.out.se T2.out.ok rfl K2 (HW2.out.below T2.out.bel (Nat.le_refl _)) (by omega) (by omega) (by omega) (by decide)
    have HC : Hid (((SeaS.new true).derive (keyB A) (packL l2)).kid (keyB A) (packL l2) = some ⟨keyB A, packL l2, (SeaS.new true).num (keyB A) (packL l2)⟩) := SeaS.kid_own _ _ _
    have HS1 : Hid (((SeaS.new true).derive (keyB A) (packL l2)).ideal = true ∧ ((SeaS.new true).derive (keyB A) (packL l2)).book = [] ∧ ((SeaS.new true).derive (keyB A) (packL l2)).count ≤ 1 ∧ ((SeaS.new true).derive (keyB A) (packL l2)).Ok) := ⟨by rw [SeaS.derive_ideal]; rfl, by rw [SeaS.derive_book]; rfl, by have := (SeaS.new true).derive_count (keyB A) (packL l2); exact this, (SeaS.Ok.new true).derive (by decide) _ _⟩
    obtain ⟨N, hN⟩ : ∃ N, N = (SeaS.new true).num (keyB A) (packL l2) := ⟨_, rfl⟩
    obtain ⟨S1, hS1⟩ : ∃ S, S = (SeaS.new true).derive (keyB A) (packL l2) := ⟨_, rfl⟩
    rw [← hN, ← hS1] at CD HC
    rw [← hS1] at HS1
    clear hN hS1
    refine CD.mono ?_
    rintro e v3 ⟨ax, mx, cx, rfl, ox, sex, kpx⟩
    have lx := ox.toBs.len
    rw [noiseL_length] at lx
    subst lx
    have T3 : Hid (StaS w v3 s U S1 M) := T2.out.after sex HS1.out.2.2.2 kpx
    have X3 : Hid (BA (fun j => ¬ U j) v3 ax 32 cx (noiseL N 32)) := ox.no T2.out.se.lt
    clear CD ox sex kpx T2 K2
    go_wp2_with fail
    go_loopw [13] (fun i wr => ∃ (k : Nat) (S : SeaS), k ≤ len4 ∧ i = .int .i64 (k : Int) ∧ Hid (StaS w wr s U S M ∧ S.ideal = true ∧ S.book = [] ∧ S.count ≤ k + 1 ∧ S.kid (keyB A) (packL l2) = some ⟨keyB A, packL l2, N⟩ ∧ BA (fun j => ¬ U j) wr ax 32 cx (noiseL N 32))) (fun i _ => len4 - (intOf i).toNat)
    case atStart => exact ⟨0, S1, Nat.zero_le _, rfl, T3.out, HS1.out.1, HS1.out.2.1, by have := HS1.out.2.2.1; omega, HC.out, X3.out⟩
    case round =>
      clear T3 X3 HC HS1
      obtain ⟨k, S, hk, rfl, HI⟩ := hrel
      by_cases hlt : k < len4
      · have i0 : (k : Int) < (len4 : Int) := by omega
        obtain ⟨x, hx⟩ : ∃ x, l4[k]? = some x := ⟨_, List.getElem?_eq_getElem (by rw [hl4]; exact hlt)⟩
        obtain ⟨b, o, p, m, q, p', m', q', rfl, hlb, hrg, hB3, hB4, hfx⟩ := ActsA.at HW4.out HI.out.1.bel hx
        have c1 : wr.cell? ⟨b, o + k * 7 + 1, none⟩ = some (.int .u8 (x.key : Int)) := hrg 1 _ rfl
        have c3 : wr.cell? ⟨b, o + k * 7 + 3, none⟩ = some (.slice p m q) := hrg 3 _ rfl
        have hlb' : b < wr.heap.size := lt_of_cell c1
        have hxk : x.key ≤ 255 := hfx.2.1
        have hm60 : m ≤ 60 := by
          have := (HV.out x (List.mem_of_getElem? hx)).1
          rw [← hB3.1.len]
          exact this
        have BS : Hid (Bs wr p m q x.beside) := hB3.1.below HI.out.1.bel (Nat.le_refl _)
        obtain ⟨kx, hkx⟩ : ∃ kx, kx = x.key := ⟨_, rfl⟩
        obtain ⟨bx, hbx⟩ : ∃ bx, bx = x.beside := ⟨_, rfl⟩
        rw [← hkx] at c1 hxk
        rw [← hbx] at BS
        clear hx hrg hB3 hB4 hfx hkx hbx
        go_wp2_with fail
        have F1 : ∀ u, Grows wr u → u.cell? ⟨b, o + k * 7 + 1, none⟩ = some (.int .u8 (kx : Int)) := fun u hu => by rw [Below.cell hu hlb']; exact c1
        have F3 : ∀ u, Grows wr u → u.cell? ⟨b, o + k * 7 + 3, none⟩ = some (.slice p m q) := fun u hu => by rw [Below.cell hu hlb']; exact c3
        refine regionE 13 (S := Grows wr) (by kernel_rfl) (Below.refl _ wr).drew ?_
        refine takeT 0 (some 44) (.pointer (some ⟨s, 0, none⟩)) rfl rfl (by kernel_rfl) (fun _ _ _ h => h) (ans_plain (by rfl) (fun w _ => rfl)) ?_
        simp only [Act.put, List.setIfInBounds_toArray, List.set_cons_zero, List.set_cons_succ]
        refine takeT 1 (some 45) (.slice (some ⟨b, o, none⟩) len4 cap4) rfl rfl (by kernel_rfl) (fun _ _ _ h => h) (ans_plain (by rfl) (fun w _ => rfl)) ?_
        simp only [Act.put, List.setIfInBounds_toArray, List.set_cons_zero, List.set_cons_succ]
        refine takeT 2 (some 46) (.int .i64 (k : Int)) rfl rfl (by kernel_rfl) (fun _ _ _ h => h) (ans_plain (by rfl) (fun w _ => rfl)) ?_
        simp only [Act.put, List.setIfInBounds_toArray, List.set_cons_zero, List.set_cons_succ]
        refine takeT 3 (some 47) (.pointer (some ⟨b, o + k * 7, none⟩)) rfl rfl (by kernel_rfl) (fun _ _ _ h => h) (ans_plain (by rfl) (fun w _ => by unfold execOp; go_simp)) ?_
        simp only [Act.put, List.setIfInBounds_toArray, List.set_cons_zero, List.set_cons_succ]
        refine takeT 4 (some 48) (.pointer (some ⟨b, o + k * 7 + 1, none⟩)) rfl rfl (by kernel_rfl) (fun _ _ _ h => h) (ans_plain (by rfl) (fun w _ => by unfold execOp; go_simp)) ?_
        simp only [Act.put, List.setIfInBounds_toArray, List.set_cons_zero, List.set_cons_succ]
        refine takeT 5 (some 49) (.int .u8 (kx : Int)) rfl rfl (by kernel_rfl) (fun _ _ _ h => h) (ans_plain (by rfl) (fun w h => by have hc := F1 w h; unfold execOp; go_simp)) ?_
        simp only [Act.put, List.setIfInBounds_toArray, List.set_cons_zero, List.set_cons_succ]
        refine takeT 7 (some 51) (.slice (some ⟨b, o, none⟩) len4 cap4) rfl rfl (by kernel_rfl) (fun _ _ _ h => h) (ans_plain (by rfl) (fun w _ => rfl)) ?_
        simp only [Act.put, List.setIfInBounds_toArray, List.set_cons_zero, List.set_cons_succ]
        refine takeT 8 (some 52) (.int .i64 (k : Int)) rfl rfl (by kernel_rfl) (fun _ _ _ h => h) (ans_plain (by rfl) (fun w _ => rfl)) ?_
        simp only [Act.put, List.setIfInBounds_toArray, List.set_cons_zero, List.set_cons_succ]
        refine takeT 9 (some 53) (.pointer (some ⟨b, o + k * 7, none⟩)) rfl rfl (by kernel_rfl) (fun _ _ _ h => h) (ans_plain (by rfl) (fun w _ => by unfold execOp; go_simp)) ?_
        simp only [Act.put, List.setIfInBounds_toArray, List.set_cons_zero, List.set_cons_succ]
        refine takeT 10 (some 54) (.pointer (some ⟨b, o + k * 7 + 3, none⟩)) rfl rfl (by kernel_rfl) (fun _ _ _ h => h) (ans_plain (by rfl) (fun w _ => by unfold execOp; go_simp)) ?_
        simp only [Act.put, List.setIfInBounds_toArray, List.set_cons_zero, List.set_cons_succ]
        refine takeT 11 (some 55) (.slice p m q) rfl rfl (by kernel_rfl) (fun _ _ _ h => h) (ans_plain (by rfl) (fun w h => by have hc := F3 w h; unfold execOp; go_simp)) ?_
        simp only [Act.put, List.setIfInBounds_toArray, List.set_cons_zero, List.set_cons_succ]
        refine both2E 6 12 50 56 (KeyV U kx) (OneV bx) (by decide) (by decide) KeyV.grow OneV.grow
          (mkCall 6 50 11 #[.tmp 49] #[5] #[.int .u8 (kx : Int)] (KeyV U kx) rfl rfl rfl (by rfl) (by rfl) Tryd.call11 (cKey HI.out.1.se.lt kx hxk))
          (fun v => mkCall 6 50 11 #[.tmp 49] #[5] #[.int .u8 (kx : Int)] (KeyV U kx) rfl rfl rfl (by rfl) (by rfl) Tryd.call11 (cKey HI.out.1.se.lt kx hxk))
          (mkOne 12 56 (.tmp 55) bx rfl rfl rfl (by rfl) p m q rfl fun u hu => BS.out.below hu (Nat.le_refl _))
          (fun v => mkOne 12 56 (.tmp 55) bx rfl rfl rfl (by rfl) p m q rfl fun u hu => BS.out.below hu (Nat.le_refl _))
          (by kernel_rfl) (by kernel_rfl) (by kernel_rfl) (by kernel_rfl) (by kernel_rfl) (by kernel_rfl) fun u v w2 hku hov hg2 hs2 => ?_
        obtain ⟨gk, rfl, hBk⟩ := hku
        obtain ⟨po, rfl, hBo⟩ := hov
        simp only [Act.put, List.setIfInBounds_toArray, List.set_cons_zero, List.set_cons_succ]
        refine lastC 13 (some 57) 16 #[.tmp 44, .tmp 50, .tmp 56] #[29, 22, 40] #[.pointer (some ⟨s, 0, none⟩), .slice (some ⟨gk, 0, none⟩) 32 32, .slice po 1 1] rfl rfl rfl (by rfl) (by rfl) (by kernel_rfl) (by kernel_rfl) (by kernel_rfl) (by kernel_rfl) Tryd.call16 fun w3 hg3 hs3 => ?_
        have ST := HI.out.1.grow hs3
        have hc0 := HI.out.2.2.2.1
        have hbk0 : S.book.length = 0 := by rw [HI.out.2.2.1]; rfl
        refine (oSDeriveI w3 ST.se ST.ok HI.out.2.1 (hBk.1.below hg3 (Nat.le_refl _)) (hBo.below hg3 (Nat.le_refl _)) (by omega) (by omega) (by simp [tot]; have := BS.out.len; omega) (by omega)).mono ?_
        rintro e w4 ⟨ay, my, cy, rfl, oy, sey, kpy⟩
        refine ⟨_, rfl, fun w5 hg5 => ?_⟩
        simp only [Act.put, List.setIfInBounds_toArray, List.set_cons_zero, List.set_cons_succ]
        have HI5 : Hid (StaS w w5 s U (S.derive (keyB kx) (packL [bx])) M ∧ (S.derive (keyB kx) (packL [bx])).ideal = true ∧ (S.derive (keyB kx) (packL [bx])).book = [] ∧ (S.derive (keyB kx) (packL [bx])).count ≤ k + 1 + 1 ∧ (S.derive (keyB kx) (packL [bx])).kid (keyB A) (packL l2) = some ⟨keyB A, packL l2, N⟩ ∧ BA (fun j => ¬ U j) w5 ax 32 cx (noiseL N 32)) :=
          ⟨(ST.after sey (ST.ok.derive (by omega) _ _) kpy).grow hg5, by rw [SeaS.derive_ideal]; exact HI.out.2.1, by rw [SeaS.derive_book]; exact HI.out.2.2.1, by have := S.derive_count (keyB kx) (packL [bx]); omega, SeaS.kid_stays HI.out.2.2.2.2.1 _ _, ((HI.out.2.2.2.2.2.below' hs3).kp kpy fun j hj => hj).below' hg5⟩
        clear HI ST oy sey kpy hg5 hg3 hs3 hg2 hs2 hBk hBo BS F1 F3 c1 c3
        go_wp2_with fail
        go_roundw
        case rel => exact ⟨k + 1, S.derive (keyB kx) (packL [bx]), by omega, by go_num, HI5.out⟩
        case measure => simp [intOf]; omega
      · have i0 : ¬ (k : Int) < (len4 : Int) := by omega
        have hc0 := HI.out.2.2.2.1
        have hbk0 : S.book.length = 0 := by rw [HI.out.2.2.1]; rfl
        go_wp2_with fail
        refine (lKey12 wr B hB).mono ?_
        rintro e v4 ⟨g4, rfl, _, o4, hb4⟩
        have K4 := o4.toBs
        have T4 := HI.out.1.grow hb4
        have X4 := HI.out.2.2.2.2.2.below' hb4
        clear o4 hb4
        go_wp2_with fail
        refine (oSDeriveI v4 T4.se T4.ok HI.out.2.1 K4 (HW3.out.below T4.bel (Nat.le_refl _)) (by omega) (by omega) (by omega) (by omega)).mono ?_
        rintro e v5 ⟨ay, my, cy, rfl, oy, sey, kpy⟩
        have ly := oy.toBs.len
        rw [noiseL_length] at ly
        subst ly
        have hcd := S.derive_count (keyB B) (packL l3)
        have T5 : Hid (StaS w v5 s U (S.derive (keyB B) (packL l3)) M) := T4.after sey (T4.ok.derive (by omega) _ _) kpy
        have X5 : Hid (BA (fun j => ¬ U j) v5 ax 32 cx (noiseL N 32)) := X4.kp kpy fun j hj => hj
        have Y5 : Hid (BA (fun j => ¬ U j) v5 ay 32 cy (noiseL (S.num (keyB B) (packL l3)) 32)) := oy.no T4.se.lt
        have HQ : Hid ((S.derive (keyB B) (packL l3)).ideal = true ∧ (S.derive (keyB B) (packL l3)).book = [] ∧ (S.derive (keyB B) (packL l3)).kid (keyB A) (packL l2) = some ⟨keyB A, packL l2, N⟩ ∧ (S.derive (keyB B) (packL l3)).kid (keyB B) (packL l3) = some ⟨keyB B, packL l3, S.num (keyB B) (packL l3)⟩) := ⟨by rw [SeaS.derive_ideal]; exact HI.out.2.1, by rw [SeaS.derive_book]; exact HI.out.2.2.1, SeaS.kid_stays HI.out.2.2.2.2.1 _ _, SeaS.kid_own _ _ _⟩
        have hcq : (S.derive (keyB B) (packL l3)).count ≤ 100 := by omega
        obtain ⟨N2, hN2⟩ : ∃ N, N = S.num (keyB B) (packL l3) := ⟨_, rfl⟩
        obtain ⟨S2, hS2⟩ : ∃ S', S' = S.derive (keyB B) (packL l3) := ⟨_, rfl⟩
        rw [← hN2] at Y5 HQ
        rw [← hS2] at T5 HQ hcq
        clear hN2 hS2 HI T4 X4 K4 oy sey kpy hcd hbk0 hc0
        have AP : Hid (decide (noiseL N 32 = noiseL N2 32) = (decide (A % 4 = B % 4) && decide (l2 = l3))) := keys_apart (S := S2) (c := ⟨keyB A, packL l2, N⟩) (c' := ⟨keyB B, packL l3, N2⟩) T5.out.ok (by omega) (by omega) HQ.out.2.2.1 HQ.out.2.2.2
        have e1 : ((A : Int) % 4 == (B : Int) % 4) = decide (A % 4 = B % 4) := by
          by_cases h : A % 4 = B % 4
          · rw [decide_eq_true h]
            simp
            omega
          · rw [decide_eq_false h]
            simp
            omega
        have t1 : (A : Int).tmod 4 = (A : Int) % 4 := by rw [Int.tmod_eq_emod_of_nonneg (by omega)]
        have t2 : (B : Int).tmod 4 = (B : Int) % 4 := by rw [Int.tmod_eq_emod_of_nonneg (by omega)]
        obtain ⟨d1, hd1⟩ : ∃ d, d = decide (A % 4 = B % 4) := ⟨_, rfl⟩
        rw [← hd1] at e1 AP
        have CSA : Hid (∀ u, Below w.heap.size w u → Calls Tryd.prog 17 #[.slice a2 len2 cap2, .slice a3 len3 cap3] u fun e w' => e = .returned (.bool (decide (l2 = l3))) ∧ ∃ k, w' = u.drewN k) := fun u hu => rSameAll u (HW2.out.below hu (Nat.le_refl _)) (HW3.out.below hu (Nat.le_refl _))
        obtain ⟨d2, hd2⟩ : ∃ d, d = decide (l2 = l3) := ⟨_, rfl⟩
        rw [← hd2] at AP CSA
        clear hd1 hd2
        have CSM : Hid (∀ u, Below v5.heap.size v5 u → Calls Tryd.prog 13 #[.slice ax 32 cx, .slice ay 32 cy] u fun e w' => e = .returned (.bool (d1 && d2)) ∧ ∃ k, w' = u.drewN k) := fun u hu => by
          rw [← AP.out]
          exact rSame u (X5.out.1.below hu (Nat.le_refl _)) (Y5.out.1.below hu (Nat.le_refl _))
        have FIN : Hid (∀ u, Below v5.heap.size v5 u → ∃ c0, c0 = d1 ∧ True) := fun u hu => ⟨d1, rfl, trivial⟩
        clear AP Y5
        cases d1 with
        | true =>
          go_wp2_with fail
          refine (CSA.out v5 T5.out.bel).mono ?_
          rintro e v6 ⟨rfl, k6, rfl⟩
          have hb6 : Below v5.heap.size v5 (v5.drewN k6) := below_drewN' _ _
          generalize v5.drewN k6 = v6 at *
          go_wp2_with fail
          refine (CSM.out v6 hb6).mono ?_
          rintro e v7 ⟨rfl, k7, rfl⟩
          have hb7 : Below v5.heap.size v5 (v6.drewN k7) := hb6.trans ((below_drewN' _ _).mono hb6.size)
          generalize v6.drewN k7 = v7 at *
          have T7 : Hid (StaS w v7 s U S2 M) := T5.out.grow hb7
          have X7 : Hid (BA (fun j => ¬ U j) v7 ax 32 cx (noiseL N 32)) := X5.out.below' hb7
          clear CSM CSA T5 X5 hb6 hb7 FIN
          cases d2 with
          | true =>
            go_wp2_with fail
            refine (lKey12 v7 A hA).mono ?_
            rintro e v8 ⟨g8, rfl, _, o8, hb8⟩
            have K8 := o8.toBs
            have T8 := T7.out.grow hb8
            have X8 := X7.out.below' hb8
            clear o8 hb8
            go_wp2_with fail
            have hbk2 : S2.book.length = 0 := by rw [HQ.out.2.1]; rfl
            refine (oSDeriveI v8 T8.se T8.ok HQ.out.1 K8 (HW2.out.below T8.bel (Nat.le_refl _)) (by omega) (by omega) (by omega) (by omega)).mono ?_
            rintro e v9 ⟨az, mz, cz, rfl, oz, sez, kpz⟩
            rw [SeaS.num_of HQ.out.2.2.1] at oz
            dsimp only at oz
            have T9 : Hid (StaS w v9 s U (S2.derive (keyB A) (packL l2)) M) := T8.after sez (T8.ok.derive (by omega) _ _) kpz
            have X9 := X8.kp kpz fun j hj => hj
            have Z9 := oz.toBs
            clear K8 T8 X8 sez kpz oz
            go_wp2_with fail
            refine (sameT v9 Z9 X9.1).mono ?_
            rintro e vA ⟨rfl, hbA⟩
            have FA := T9.out.bel.trans (hbA.mono T9.out.bel.size)
            clear T9 X9 Z9 hbA
            go_wp2_with fail
            refine (lWorks12 vA).mono ?_
            rintro e vB ⟨rfl, hbB⟩
            go_wp2_with fail
            go_ret
            exact ⟨rfl, FA.trans (hbB.mono FA.size)⟩
          | false =>
            go_wp2_with fail
            refine (lKey12 v7 A hA).mono ?_
            rintro e v8 ⟨g8, rfl, _, o8, hb8⟩
            have K8 := o8.toBs
            have T8 := T7.out.grow hb8
            have X8 := X7.out.below' hb8
            clear o8 hb8
            go_wp2_with fail
            have hbk2 : S2.book.length = 0 := by rw [HQ.out.2.1]; rfl
            refine (oSDeriveI v8 T8.se T8.ok HQ.out.1 K8 (HW2.out.below T8.bel (Nat.le_refl _)) (by omega) (by omega) (by omega) (by omega)).mono ?_
            rintro e v9 ⟨az, mz, cz, rfl, oz, sez, kpz⟩
            rw [SeaS.num_of HQ.out.2.2.1] at oz
            dsimp only at oz
            have T9 : Hid (StaS w v9 s U (S2.derive (keyB A) (packL l2)) M) := T8.after sez (T8.ok.derive (by omega) _ _) kpz
            have X9 := X8.kp kpz fun j hj => hj
            have Z9 := oz.toBs
            clear K8 T8 X8 sez kpz oz
            go_wp2_with fail
            refine (sameT v9 Z9 X9.1).mono ?_
            rintro e vA ⟨rfl, hbA⟩
            have FA := T9.out.bel.trans (hbA.mono T9.out.bel.size)
            clear T9 X9 Z9 hbA
            go_wp2_with fail
            refine (lWorks12 vA).mono ?_
            rintro e vB ⟨rfl, hbB⟩
            go_wp2_with fail
            go_ret
            exact ⟨rfl, FA.trans (hbB.mono FA.size)⟩
        | false =>
          go_wp2_with fail
          refine (CSM.out v5 (Below.refl _ _)).mono ?_
          rintro e v7 ⟨rfl, k7, rfl⟩
          have hb7 : Below v5.heap.size v5 (v5.drewN k7) := below_drewN' _ _
          generalize v5.drewN k7 = v7 at *
          have T7 : Hid (StaS w v7 s U S2 M) := T5.out.grow hb7
          have X7 : Hid (BA (fun j => ¬ U j) v7 ax 32 cx (noiseL N 32)) := X5.out.below' hb7
          clear CSM CSA T5 X5 hb7 FIN
          go_wp2_with fail
          refine (lKey12 v7 A hA).mono ?_
          rintro e v8 ⟨g8, rfl, _, o8, hb8⟩
          have K8 := o8.toBs
          have T8 := T7.out.grow hb8
          have X8 := X7.out.below' hb8
          clear o8 hb8
          go_wp2_with fail
          have hbk2 : S2.book.length = 0 := by rw [HQ.out.2.1]; rfl
          refine (oSDeriveI v8 T8.se T8.ok HQ.out.1 K8 (HW2.out.below T8.bel (Nat.le_refl _)) (by omega) (by omega) (by omega) (by omega)).mono ?_
          rintro e v9 ⟨az, mz, cz, rfl, oz, sez, kpz⟩
          rw [SeaS.num_of HQ.out.2.2.1] at oz
          dsimp only at oz
          have T9 : Hid (StaS w v9 s U (S2.derive (keyB A) (packL l2)) M) := T8.after sez (T8.ok.derive (by omega) _ _) kpz
          have X9 := X8.kp kpz fun j hj => hj
          have Z9 := oz.toBs
          clear K8 T8 X8 sez kpz oz
          go_wp2_with fail
          refine (sameT v9 Z9 X9.1).mono ?_
          rintro e vA ⟨rfl, hbA⟩
          have FA := T9.out.bel.trans (hbA.mono T9.out.bel.size)
          clear T9 X9 Z9 hbA
          go_wp2_with fail
          refine (lWorks12 vA).mono ?_
          rintro e vB ⟨rfl, hbB⟩
          go_wp2_with fail
          go_ret
          exact ⟨rfl, FA.trans (hbB.mono FA.size)⟩

set_option maxRecDepth 100000 in
theorem contract (H : Type) (enc : TypeId × Value → H) (W : World) (base : Nat) (args : Array Value) (ds gs : List (DataW H)) (before : List MemPlace)
    (hval0 : ∀ (j : Nat) t v, Tryd.f5.params[j]? = some t → args[j]? = some v → Value.okWide Tryd.prog W .any base t v)
    (hW : DataW.Whole enc Tryd.prog Tryd.f5.params.toList Rows.sealKeysSpec.vars false W args.toList ds gs before) (hL : laidMetH Tryd.prog Rows.sealKeysRow.laid W) :
    Calls Tryd.prog 5 args W fun e W' => ∃ v, e = .returned v ∧ Rows.sealKeysSpec.post enc Tryd.prog Tryd.f5 false true false false W args v W' := by
  have hval : ∀ (j : Nat) t v, Tryd.f5.params[j]? = some t → args[j]? = some v → Value.okWide Tryd.prog W .any base t v := hval0
  have hW' := hW
  obtain ⟨p, q, hA0, hV, rfl, hfz, hnd⟩ := hW
  have hA : DataW.TrodAll enc Tryd.prog W 0 (fun _ => true) true Tryd.f5.params.toList args.toList ds p := hA0
  rw [Tryd.params5] at hA hval
  obtain ⟨v0, vs0, d0, ds0, p0, q0, hargs, rfl, rfl, h0, r0⟩ := trodAll_cons hA
  obtain ⟨v1, vs1, d1, ds1, p1, q1, rfl, rfl, rfl, h1, r1⟩ := trodAll_cons r0
  obtain ⟨v2, vs2, d2, ds2, p2, q2, rfl, rfl, rfl, h2, r2⟩ := trodAll_cons r1
  obtain ⟨v3, vs3, d3, ds3, p3, q3, rfl, rfl, rfl, h3, r3⟩ := trodAll_cons r2
  obtain ⟨v4, vs4, d4, ds4, p4, q4, rfl, rfl, rfl, h4, r4⟩ := trodAll_cons r3
  obtain ⟨rfl, rfl, rfl⟩ := trodAll_nil r4
  obtain rfl : args = #[v0, v1, v2, v3, v4] := by cases args; simp_all
  obtain ⟨rfl, rfl⟩ := trodVars_none hV
  obtain ⟨a0, rfl, rfl, rfl, w0⟩ := open_int Tryd.underlying5 (hval 0 5 v0 rfl rfl) h0
  obtain ⟨a1, rfl, rfl, rfl, w1⟩ := open_int Tryd.underlying5 (hval 1 5 v1 rfl rfl) h1
  obtain ⟨a2, len2, cap2, rfl⟩ := okWide_slice Tryd.underlying40 (hval 2 40 v2 rfl rfl)
  have k2 := h2
  have lt2 : ∀ x ∈ p2, x.block < W.heap.size := by obtain ⟨m, hm⟩ := k2; exact DataW.trod_lt m _ _ _ hm
  obtain ⟨l2, w2⟩ : ∃ l, Bss W a2 len2 cap2 l := by
    obtain ⟨fuel, hf⟩ := h2
    exact Bss.of_trod hf
  obtain ⟨a3, len3, cap3, rfl⟩ := okWide_slice Tryd.underlying40 (hval 3 40 v3 rfl rfl)
  have k3 := h3
  have lt3 : ∀ x ∈ p3, x.block < W.heap.size := by obtain ⟨m, hm⟩ := k3; exact DataW.trod_lt m _ _ _ hm
  obtain ⟨l3, w3⟩ : ∃ l, Bss W a3 len3 cap3 l := by
    obtain ⟨fuel, hf⟩ := h3
    exact Bss.of_trod hf
  obtain ⟨a4, len4, cap4, rfl⟩ := okWide_slice Tryd.underlying26 (hval 4 26 v4 rfl rfl)
  have k4 := h4
  have lt4 : ∀ x ∈ p4, x.block < W.heap.size := by obtain ⟨m, hm⟩ := k4; exact DataW.trod_lt m _ _ _ hm
  obtain ⟨l4, w4⟩ : ∃ l, Acts12 W a4 len4 cap4 l := by
    obtain ⟨fuel, hf⟩ := h4
    exact acts12_of_trod hf
  clear hA0 hval0
  refine (walk a0 a1 a2 len2 cap2 l2 a3 len3 cap3 l3 a4 len4 cap4 l4 W (kon hL) w0 w1 w2 w3 w4).mono fun e W' ⟨he, bel⟩ => ?_
  subst he
  exact ⟨_, rfl, _, _, _, [], _, [], hW', trodAll_mk1 (shut_bool Tryd.underlying4 _), (trodAll_cons_mk (shut_int Tryd.underlying5 w0) (trodAll_cons_mk (shut_int Tryd.underlying5 w1) (trodAll_cons_mk (Below.trod laidOut (by kernel_rfl) (of_decide_eq_true (by kernel_rfl)) k2 bel lt2) (trodAll_cons_mk (Below.trod laidOut (by kernel_rfl) (of_decide_eq_true (by kernel_rfl)) k3 bel lt3) (trodAll_cons_mk (Below.trod laidOut (by kernel_rfl) (of_decide_eq_true (by kernel_rfl)) k4 bel lt4) trodAll_mk0))))), rfl, bel.frame _, fun h => by cases h⟩

/-- A world for the witness: the settled one, the constants as their initialiser lays them. -/
noncomputable def laidWorld (os : Os) : World :=
  { World.holding Tryd.prog os ⟨#[], #[], []⟩ with heap := (World.holding Tryd.prog os ⟨#[], #[], []⟩).heap.modify 0 fun
      | .cells _ t frozen => .cells (ws sKs).toArray t frozen
      | o => o }
set_option maxRecDepth 100000 in
theorem laid_met (os : Os) : laidMet Tryd.prog Rows.sealKeysRow.laid ((laidWorld os).forCall (fun _ _ => 0) ⟨#[], #[.int .u8 0, .int .u8 0, .slice none 0 0, .slice none 0 0, .slice none 0 0], []⟩).memory :=
  laidMet_of_run' 8 (by kernel_rfl) (by kernel_rfl)
set_option maxRecDepth 100000 in
theorem reads (os : Os) {H : Type} (enc : TypeId × Value → H) : ∃ places, DataW.whole enc Tryd.prog ((laidWorld os).forCall (fun _ _ => 0) ⟨#[], #[.int .u8 0, .int .u8 0, .slice none 0 0, .slice none 0 0, .slice none 0 0], []⟩).memory Tryd.f5.params.toList Rows.sealKeysSpec.vars false (#[.int .u8 0, .int .u8 0, .slice none 0 0, .slice none 0 0, .slice none 0 0] : Array Value).toList 8 = some ([.lit (.int .u8 0), .lit (.int .u8 0), .nil, .nil, .nil], [], places) :=
  ⟨[], by kernel_rfl⟩

set_option maxRecDepth 100000 in
theorem lifted (os : Os) (started : os.Started) (H : Type) (enc : TypeId × Value → H) (F : Stop.Interp) :
    ReturnsInHanded {} Tryd.checked os 5 .any ((OpenSpec.ofChange Rows.sealKeysSpec).preRow enc Tryd.prog Tryd.f5 Rows.sealKeysRow.domain false Rows.sealKeysRow.laid) (((OpenSpec.ofChange Rows.sealKeysSpec).at F).post enc Tryd.prog Tryd.f5 false true false false) := by
  obtain ⟨places, hx⟩ := reads os enc
  refine returnsInHanded_of_row (C := Tryd.checked) (s := OpenSpec.ofChange Rows.sealKeysSpec) own started (by kernel_rfl) Tryd.func5
    (witness_row_at (enc := enc) (C := Tryd.checked) false (laidWorld os) #[.int .u8 0, .int .u8 0, .slice none 0 0, .slice none 0 0, .slice none 0 0] rfl (by kernel_rfl) (by kernel_rfl) (by kernel_rfl)
      (OpenSpec.preRow_of_cond 8 hx (by kernel_rfl) (fun k hk => by cases hk) (by kernel_rfl) (laid_met os))) ?_
  intro W base args ds gs before hval hW _ _ _ hL _ _
  exact contract H enc W base args ds gs before hval hW hL

theorem over : Rows.sealKeysRow.holds Tryd.pinned (OpenSpec.ofChange Rows.sealKeysSpec) :=
  OpenClaim.holds_of_cond 5 Tryd.f5 rfl rfl rfl rfl rfl rfl rfl ⟨rfl, rfl, rfl, rfl, rfl⟩ rfl rfl rfl rfl rfl (by kernel_rfl) Tryd.func5 (by kernel_rfl)
    (of_decide_eq_true (by kernel_rfl)) (by unfold Func.isWrapper; first | (rw [if_pos (by decide +kernel)]; kernel_rfl) | (rw [if_neg (by decide +kernel)]; exact ⟨rfl, rfl⟩))
    (fun os started H enc _ F => by rw [OpenClaim.pre_eq_preRow]; exact lifted os started H enc F)

/-- No parameter wants a stand-in. -/
theorem plain (f : FuncId) (fn : Func) (hf : Tryd.pinned.checked.prog.funcNamed "deedbox/deedboxlaw12.SealKeys" = some f) (hfn : Tryd.pinned.checked.prog.funcs[f]? = some fn) :
    false = Tryd.pinned.checked.prog.looks [] ∧ ∀ (j : Nat) t, fn.params[j]? = some t → Tryd.pinned.checked.prog.wantsStandIn t = false := by
  obtain rfl : f = 5 := Option.some.inj ((show Tryd.prog.funcNamed "deedbox/deedboxlaw12.SealKeys" = some 5 by kernel_rfl).symm.trans hf) |>.symm
  obtain rfl : fn = Tryd.f5 := (Option.some.inj (Tryd.func5.symm.trans hfn)).symm
  refine ⟨by kernel_rfl, fun j t ht => ?_⟩
  rw [Tryd.params5] at ht
  have hm := Array.mem_of_getElem? ht
  simp only [List.mem_toArray, List.mem_cons, List.not_mem_nil, or_false] at hm
  rcases hm with rfl | rfl | rfl | rfl | rfl
  · exact (show Tryd.prog.wantsStandIn 5 = false by kernel_rfl)
  · exact (show Tryd.prog.wantsStandIn 5 = false by kernel_rfl)
  · exact (show Tryd.prog.wantsStandIn 40 = false by kernel_rfl)
  · exact (show Tryd.prog.wantsStandIn 40 = false by kernel_rfl)
  · exact (show Tryd.prog.wantsStandIn 26 = false by kernel_rfl)
end SealKeysLaw

/-- The statement: the card. -/
theorem sealKeys_holds : Rows.SealKeysCardSaid :=
  Claim7.holds_tied_plain_at .later [] _ _ _ _ SealKeysLaw.over (fun _ h => by cases h) (by kernel_rfl) (fun _ h => by cases h) sealKeys_row_tie rfl ⟨rfl, rfl⟩ (by kernel_rfl) rfl SealKeysLaw.plain (by kernel_rfl)
#print axioms sealKeys_holds
end Go.Proofs.YtjpejheipkfanaaDoor
