/-
  8 texts in one. No statement of the seat is proved here.
-/
import Derived.Test.YtjpejheipkfanaaGreatDoorG23

/-
  The contract of layer 12's smoke: it answers true, and leaves all as it was. No condition.
-/
namespace Go.Proofs.YtjpejheipkfanaaGreatDoor
open Go.RowKit
set_option linter.unusedVariables false

theorem BA.mark1 {A : Nat → Prop} {w : World} (l : List UInt8) (arr : Array Value) (f : Nat × Nat) (h : arr.toList = cs l) (hm : l.length ≤ 1000000) (hA : ∀ j, w.heap.size ≤ j → A j) : BA A (w.alloc (.cells arr 5 f)) (some ⟨w.heap.size, 0, none⟩) l.length l.length l :=
  ⟨Bs.marked w l arr f h hm, fun _ => ⟨_, rfl, hA _ (Nat.le_refl _), by simp⟩⟩
theorem BA.mark2 {A : Nat → Prop} {w : World} (o : Obj) (l : List UInt8) (arr : Array Value) (f : Nat × Nat) (h : arr.toList = cs l) (hm : l.length ≤ 1000000) (hA : ∀ j, w.heap.size ≤ j → A j) : BA A ((w.alloc o).alloc (.cells arr 5 f)) (some ⟨w.heap.size + 1, 0, none⟩) l.length l.length l := by
  have := BA.mark1 (A := A) (w := w.alloc o) l arr f h hm (fun j hj => hA j (by simp at hj; omega))
  rw [show (w.alloc o).heap.size = w.heap.size + 1 from by simp] at this
  exact this
theorem Own.both {A : Nat → Prop} {w : World} {base : Nat} {p : Option Addr} {m q : Nat} {l : List UInt8} (h : Own w base (.slice p m q) l) (hA : ∀ j, base ≤ j → A j) : BA A w p m q l := h.ba.mono' fun j _ hj => hA j hj
/-- Where neither of two sealers lies. -/
def AA (U1 U2 : Nat → Prop) : Nat → Prop := fun j => ¬ U1 j ∧ ¬ U2 j
theorem TwoS.aa {w0 w : World} {r1 r2 : Nat} {U1 U2 : Nat → Prop} {S1 S2 : SeaS} {M1 M2 : SeaM} (h : TwoS w0 w r1 U1 S1 M1 r2 U2 S2 M2) : ∀ j, w.heap.size ≤ j → AA U1 U2 j := fun j hj => ⟨fun hu => by have := h.a.se.lt j hu; omega, fun hu => by have := h.b.se.lt j hu; omega⟩
theorem BA.n1 {U1 U2 : Nat → Prop} {w : World} {p : Option Addr} {m q : Nat} {l : List UInt8} (h : BA (AA U1 U2) w p m q l) : BA (fun j => ¬ U1 j) w p m q l := h.mono' fun _ _ h => h.1
theorem BA.n2 {U1 U2 : Nat → Prop} {w : World} {p : Option Addr} {m q : Nat} {l : List UInt8} (h : BA (AA U1 U2) w p m q l) : BA (fun j => ¬ U2 j) w p m q l := h.mono' fun _ _ h => h.2
theorem BA.k1 {U1 U2 : Nat → Prop} {w w' : World} {p : Option Addr} {m q : Nat} {l : List UInt8} (h : BA (AA U1 U2) w p m q l) (k : Kp U1 w w') : BA (AA U1 U2) w' p m q l := h.kp k fun j hj => hj.1
theorem BA.k2 {U1 U2 : Nat → Prop} {w w' : World} {p : Option Addr} {m q : Nat} {l : List UInt8} (h : BA (AA U1 U2) w p m q l) (k : Kp U2 w w') : BA (AA U1 U2) w' p m q l := h.kp k fun j hj => hj.2
theorem non_apart : ¬ nonL 1 2 = nonL 1 3 := by decide
theorem ok_opens_ideal (S : SeaS) (h : S.Ok) (k n b s : List UInt8) : (S.opened k n b s).Ok := h.opened k n b s
/-- Under another nonce nothing opens. -/
theorem works_not : ((SeaS.new true).seal (keyB 1) (nonL 1 2) [120] [97, 98, 99]).opens (keyB 1) (nonL 1 3) [120] ((SeaS.new true).made (keyB 1) (nonL 1 2) [120] [97, 98, 99]) = none := by
  unfold SeaS.opens
  show (if true = true then _ else _) = _
  rw [if_pos rfl, SeaS.known_seal]
  show (if _ then _ else _) = _
  rw [if_neg (fun h => non_apart h.2.1)]
theorem works_forged (S : SeaS) (hf : S.forged = false) (k n b t : List UInt8) : ((S.seal k n b t).opened k n b (S.made k n b t)).forged = false := by
  have h1 := S.known_own k n b t
  unfold SeaS.opened
  show (S.forged || _) = false
  rw [hf, Option.isNone_eq_false_iff.2 h1]
  simp
theorem works_reused (i : Bool) (k n b t k' n' b' s' : List UInt8) : (((SeaS.new i).seal k n b t).opened k' n' b' s').reused = false := rfl
theorem SeaS.derive_ideal (S : SeaS) (u p : List UInt8) : (S.derive u p).ideal = S.ideal := by
  unfold SeaS.derive
  split <;> rfl
theorem SeaS.derive_book (S : SeaS) (u p : List UInt8) : (S.derive u p).book = S.book := by
  unfold SeaS.derive
  split <;> rfl
theorem works_ideal (i : Bool) (k n b t k' n' b' s' : List UInt8) : (((SeaS.new i).seal k n b t).opened k' n' b' s').ideal = i := rfl

set_option maxRecDepth 100000 in
set_option maxHeartbeats 8000000 in
theorem lWorks12 (w : World) : Calls Tryz.prog 6 #[] w fun e w' => e = .returned (.bool true) ∧ Below w.heap.size w w' := by
  have HZ : Hid (((SeaS.new true).seal (keyB 1) (nonL 1 2) [120] [97, 98, 99]).opens (keyB 1) (nonL 1 2) [120] ((SeaS.new true).made (keyB 1) (nonL 1 2) [120] [97, 98, 99]) = some [97, 98, 99]) := SeaS.opens_own (SeaS.Ok.new true) (keyB_length 1) (nonL_length 1 2) _ _
  have HY : Hid (((SeaS.new false).seal (keyB 1) (nonL 1 2) [] [97, 98, 99]).opens (keyB 1) (nonL 1 2) [] ((SeaS.new false).made (keyB 1) (nonL 1 2) [] [97, 98, 99]) = some [97, 98, 99]) := SeaS.opens_own (SeaS.Ok.new false) (keyB_length 1) (nonL_length 1 2) _ _
  have HN : Hid (((SeaS.new true).seal (keyB 1) (nonL 1 2) [120] [97, 98, 99]).opens (keyB 1) (nonL 1 3) [120] ((SeaS.new true).made (keyB 1) (nonL 1 2) [120] [97, 98, 99]) = none) := works_not
  have HO1 : Hid (∀ k n b s, ((SeaS.new true).seal (keyB 1) (nonL 1 2) [120] [97, 98, 99]).opened k n b s = (SeaS.new true).seal (keyB 1) (nonL 1 2) [120] [97, 98, 99]) := fun k n b s => SeaS.opened_ideal rfl k n b s
  have HK1 : Hid (((SeaS.new true).seal (keyB 1) (nonL 1 2) [120] [97, 98, 99]).Ok) := (SeaS.Ok.new true).seal (by decide) _ _ _ _
  have HK2 : Hid (((SeaS.new false).seal (keyB 1) (nonL 1 2) [] [97, 98, 99]).Ok) := (SeaS.Ok.new false).seal (by decide) _ _ _ _
  have HL1 : Hid (((SeaS.new true).made (keyB 1) (nonL 1 2) [120] [97, 98, 99]).length = 19) := by show _ = _; rw [SeaS.made_len (keyB_length 1) (nonL_length 1 2)]; rfl
  have HL2 : Hid (((SeaS.new false).made (keyB 1) (nonL 1 2) [] [97, 98, 99]).length = 19) := by show _ = _; rw [SeaS.made_len (keyB_length 1) (nonL_length 1 2)]; rfl
  have HF : Hid ((((SeaS.new false).seal (keyB 1) (nonL 1 2) [] [97, 98, 99]).opened (keyB 1) (nonL 1 2) [] ((SeaS.new false).made (keyB 1) (nonL 1 2) [] [97, 98, 99])).forged = false) := works_forged _ rfl _ _ _ _
  have HR : Hid ((((SeaS.new false).seal (keyB 1) (nonL 1 2) [] [97, 98, 99]).opened (keyB 1) (nonL 1 2) [] ((SeaS.new false).made (keyB 1) (nonL 1 2) [] [97, 98, 99])).reused = false) := rfl
  have HI1 : Hid (((SeaS.new true).seal (keyB 1) (nonL 1 2) [120] [97, 98, 99]).ideal = true ∧ ((SeaS.new true).seal (keyB 1) (nonL 1 2) [120] [97, 98, 99]).book.length = 1 ∧ ((SeaS.new true).seal (keyB 1) (nonL 1 2) [120] [97, 98, 99]).count = 1) := ⟨rfl, rfl, rfl⟩
  obtain ⟨A1, hA1⟩ : ∃ A, A = (SeaS.new true).made (keyB 1) (nonL 1 2) [120] [97, 98, 99] := ⟨_, rfl⟩
  obtain ⟨A2, hA2⟩ : ∃ A, A = (SeaS.new false).made (keyB 1) (nonL 1 2) [] [97, 98, 99] := ⟨_, rfl⟩
  obtain ⟨Z1, hZ1⟩ : ∃ S, S = (SeaS.new true).seal (keyB 1) (nonL 1 2) [120] [97, 98, 99] := ⟨_, rfl⟩
  obtain ⟨Z2, hZ2⟩ : ∃ S, S = (SeaS.new false).seal (keyB 1) (nonL 1 2) [] [97, 98, 99] := ⟨_, rfl⟩
  rw [← hZ1, ← hA1] at HZ HN
  rw [← hZ2, ← hA2] at HY HF HR
  rw [← hZ1] at HO1 HK1 HI1
  rw [← hZ2] at HK2
  rw [← hA1] at HL1
  rw [← hA2] at HL2
  have C1 : Hid (∀ (u : World) (U : Nat → Prop) (r : Nat) (M : SeaM) (ak an ab at' : Option Addr) (ck cn cb ct : Nat), Se U u r (SeaS.new true) M → BA (fun j => ¬ U j) u ak 32 ck (keyB 1) → BA (fun j => ¬ U j) u an 12 cn (nonL 1 2) → BA (fun j => ¬ U j) u ab 1 cb [120] → BA (fun j => ¬ U j) u at' 3 ct [97, 98, 99] → Calls Tryz.prog 12 #[.pointer (some ⟨r, 0, none⟩), .slice ak 32 ck, .slice an 12 cn, .slice ab 1 cb, .slice at' 3 ct] u (Mades U r Z1 M A1 u)) := fun u U r M ak an ab at' ck cn cb ct hs h1 h2 h3 h4 => by
    rw [hZ1, hA1]
    exact oSSeal u hs (SeaS.Ok.new true) h1 h2 h3 h4 (by omega) (by omega) (by decide)
  have C2 : Hid (∀ (u : World) (U : Nat → Prop) (r : Nat) (M : SeaM) (ak an ab at' : Option Addr) (ck cn cb ct : Nat), Se U u r (SeaS.new false) M → BA (fun j => ¬ U j) u ak 32 ck (keyB 1) → BA (fun j => ¬ U j) u an 12 cn (nonL 1 2) → BA (fun j => ¬ U j) u ab 0 cb [] → BA (fun j => ¬ U j) u at' 3 ct [97, 98, 99] → Calls Tryz.prog 12 #[.pointer (some ⟨r, 0, none⟩), .slice ak 32 ck, .slice an 12 cn, .slice ab 0 cb, .slice at' 3 ct] u (Mades U r Z2 M A2 u)) := fun u U r M ak an ab at' ck cn cb ct hs h1 h2 h3 h4 => by
    rw [hZ2, hA2]
    exact oSSeal u hs (SeaS.Ok.new false) h1 h2 h3 h4 (by omega) (by omega) (by decide)
  clear hZ1 hZ2 hA1 hA2
  go_enter Tryz.func6, Tryz.ntmps6
  go_wp2_with fail
  refine (oSNew true w).mono ?_
  rintro e w1 ⟨s, U1, M1, rfl, hs1, hU1, hb1⟩
  have T1 : Hid (StaS w w1 s U1 (SeaS.new true) M1) := StaS.first (Below.refl _ w) hs1 hU1 hb1
  clear hs1 hU1 hb1
  go_wp2_with fail
  refine (oSNew false w1).mono ?_
  rintro e w2 ⟨r, U2, M2, rfl, hs2, hU2, hb2⟩
  have T2 : Hid (TwoS w w2 s U1 (SeaS.new true) M1 r U2 (SeaS.new false) M2) := TwoS.first T1.out hs2 hU2 hb2
  clear hs2 hU2 hb2 T1
  go_wp2_with fail
  refine (lKey12 w2 1 (by omega)).mono ?_
  rintro e w3 ⟨g3, rfl, _, o3, hb3⟩
  have T3 : Hid (TwoS w w3 s U1 (SeaS.new true) M1 r U2 (SeaS.new false) M2) := T2.out.grow hb3
  have K_3 := o3.both T2.out.aa
  clear T2 o3 hb3
  go_wp2_with fail
  refine (oSNonce w3 1 2 (by omega) (by omega)).mono ?_
  rintro e w4 ⟨a4, m4, c4, rfl, o4, hb4⟩
  have l4 := o4.toBs.len
  rw [nonL_length] at l4
  subst l4
  have T4 : Hid (TwoS w w4 s U1 (SeaS.new true) M1 r U2 (SeaS.new false) M2) := T3.out.grow hb4
  have K_4 := K_3.below' hb4
  have N_4 := o4.both T3.out.aa
  clear T3 o4 hb4 K_3
  have hbm : Below w4.heap.size w4 ((w4.alloc (.cells #[.int .u8 120] 5 (1, 2))).alloc (.cells #[.int .u8 97, .int .u8 98, .int .u8 99] 5 (3, 4))) := (below_alloc w4 _).trans ((below_alloc _ _).mono (below_alloc w4 _).size)
  have X_5 := (BA.mark1 (A := AA U1 U2) (w := w4) [120] #[.int .u8 120] (1, 2) rfl (by decide) T4.out.aa).below' (below_alloc _ (.cells #[.int .u8 97, .int .u8 98, .int .u8 99] 5 (3, 4)))
  have Y_5 := BA.mark2 (A := AA U1 U2) (w := w4) (.cells #[.int .u8 120] 5 (1, 2)) [97, 98, 99] #[.int .u8 97, .int .u8 98, .int .u8 99] (3, 4) rfl (by decide) T4.out.aa
  have T5 : Hid (TwoS w ((w4.alloc (.cells #[.int .u8 120] 5 (1, 2))).alloc (.cells #[.int .u8 97, .int .u8 98, .int .u8 99] 5 (3, 4))) s U1 (SeaS.new true) M1 r U2 (SeaS.new false) M2) := T4.out.grow hbm
  have K_5 := K_4.below' hbm
  have N_5 := N_4.below' hbm
  clear T4 hbm K_4 N_4
  have kc := fun (w : World) (C : Array Value) (n c : Nat) => Lib.run_convert_bytes_const (P := Tryz.prog) w 32 5 C n c Tryz.underlying32 Tryz.underlying5
  have kd := conv2
  go_wp2_with fail
  clear kc kd
  obtain ⟨x5, hx5⟩ : ∃ x, x = w4.heap.size := ⟨_, rfl⟩
  obtain ⟨y5, hy5⟩ : ∃ x, x = w4.heap.size + 1 := ⟨_, rfl⟩
  rw [← hy5] at Y_5 ⊢
  rw [← hx5] at X_5 ⊢
  clear hx5 hy5
  generalize (w4.alloc (.cells #[.int .u8 120] 5 (1, 2))).alloc (.cells #[.int .u8 97, .int .u8 98, .int .u8 99] 5 (3, 4)) = w5 at *
  refine (C1.out w5 U1 s M1 _ _ _ _ _ _ _ _ T5.out.a.se K_5.n1 N_5.n1 X_5.n1 Y_5.n1).mono ?_
  rintro e w6 ⟨as', ms, cs', rfl, oS, seS, kpS⟩
  have lS := oS.toBs.len
  rw [HL1.out] at lS
  subst lS
  have T6 : Hid (TwoS w w6 s U1 Z1 M1 r U2 (SeaS.new false) M2) := T5.out.left seS HK1.out kpS
  have A_6 := oS.both T5.out.aa
  clear T5 oS seS kpS K_5 N_5 X_5 Y_5 C1
  go_wp2_with fail
  refine (lKey12 w6 1 (by omega)).mono ?_
  rintro e w7 ⟨g7, rfl, _, o7, hb7⟩
  have T7 : Hid (TwoS w w7 s U1 Z1 M1 r U2 (SeaS.new false) M2) := T6.out.grow hb7
  have A_7 := A_6.below' hb7
  have K_7 := o7.both T6.out.aa
  clear T6 o7 hb7 A_6
  go_wp2_with fail
  refine (oSNonce w7 1 2 (by omega) (by omega)).mono ?_
  rintro e w8 ⟨a8, m8, c8, rfl, o8, hb8⟩
  have l8 := o8.toBs.len
  rw [nonL_length] at l8
  subst l8
  have T8 : Hid (TwoS w w8 s U1 Z1 M1 r U2 (SeaS.new false) M2) := T7.out.grow hb8
  have A_8 := A_7.below' hb8
  have K_8 := K_7.below' hb8
  have N_8 := o8.both T7.out.aa
  clear T7 o8 hb8 A_7 K_7
  have hbm : Below w8.heap.size w8 (w8.alloc (.cells #[.int .u8 120] 5 (1, 2))) := below_alloc w8 _
  have X_9 := BA.mark1 (A := AA U1 U2) (w := w8) [120] #[.int .u8 120] (1, 2) rfl (by decide) T8.out.aa
  have T9 : Hid (TwoS w (w8.alloc (.cells #[.int .u8 120] 5 (1, 2))) s U1 Z1 M1 r U2 (SeaS.new false) M2) := T8.out.grow hbm
  have A_9 := A_8.below' hbm
  have K_9 := K_8.below' hbm
  have N_9 := N_8.below' hbm
  clear T8 hbm A_8 K_8 N_8
  have kc := fun (w : World) (C : Array Value) (n c : Nat) => Lib.run_convert_bytes_const (P := Tryz.prog) w 32 5 C n c Tryz.underlying32 Tryz.underlying5
  have kd := conv2
  go_wp2_with fail
  clear kc kd
  obtain ⟨x9, hx9⟩ : ∃ x, x = w8.heap.size := ⟨_, rfl⟩
  rw [← hx9] at X_9 ⊢
  clear hx9
  generalize w8.alloc (.cells #[.int .u8 120] 5 (1, 2)) = w9 at *
  have CO := oSOpen w9 T9.out.a.se K_9.1 N_9.1 X_9.1 A_9.1 (by decide) (by omega)
  rw [HO1.out, HZ.out] at CO
  refine CO.mono ?_
  rintro e w10 ⟨pb, mb, cb, rfl, oB, seB, kpB⟩
  have T10 : Hid (TwoS w w10 s U1 Z1 M1 r U2 (SeaS.new false) M2) := T9.out.left seB HK1.out kpB
  have B_10 : BA (AA U1 U2) w10 pb mb cb [97, 98, 99] := BA.mono' oB fun j _ hj => T9.out.aa j hj
  have A_10 := A_9.k1 kpB
  clear CO T9 oB seB kpB K_9 N_9 X_9 A_9
  simp only [Option.isSome_some, if_true]
  go_wp2_with fail
  refine (lKey12 w10 1 (by omega)).mono ?_
  rintro e w11 ⟨g11, rfl, _, o11, hb11⟩
  have T11 : Hid (TwoS w w11 s U1 Z1 M1 r U2 (SeaS.new false) M2) := T10.out.grow hb11
  have A_11 := A_10.below' hb11
  have B_11 := B_10.below' hb11
  have K_11 := o11.both T10.out.aa
  clear T10 o11 hb11 A_10 B_10
  go_wp2_with fail
  refine (oSNonce w11 1 3 (by omega) (by omega)).mono ?_
  rintro e w12 ⟨a12, m12, c12, rfl, o12, hb12⟩
  have l12 := o12.toBs.len
  rw [nonL_length] at l12
  subst l12
  have T12 : Hid (TwoS w w12 s U1 Z1 M1 r U2 (SeaS.new false) M2) := T11.out.grow hb12
  have A_12 := A_11.below' hb12
  have B_12 := B_11.below' hb12
  have K_12 := K_11.below' hb12
  have N_12 := o12.both T11.out.aa
  clear T11 o12 hb12 A_11 B_11 K_11
  have hbm : Below w12.heap.size w12 (w12.alloc (.cells #[.int .u8 120] 5 (1, 2))) := below_alloc w12 _
  have X_13 := BA.mark1 (A := AA U1 U2) (w := w12) [120] #[.int .u8 120] (1, 2) rfl (by decide) T12.out.aa
  have T13 : Hid (TwoS w (w12.alloc (.cells #[.int .u8 120] 5 (1, 2))) s U1 Z1 M1 r U2 (SeaS.new false) M2) := T12.out.grow hbm
  have A_13 := A_12.below' hbm
  have B_13 := B_12.below' hbm
  have K_13 := K_12.below' hbm
  have N_13 := N_12.below' hbm
  clear T12 hbm A_12 B_12 K_12 N_12
  have kc := fun (w : World) (C : Array Value) (n c : Nat) => Lib.run_convert_bytes_const (P := Tryz.prog) w 32 5 C n c Tryz.underlying32 Tryz.underlying5
  have kd := conv2
  go_wp2_with fail
  clear kc kd
  obtain ⟨x13, hx13⟩ : ∃ x, x = w12.heap.size := ⟨_, rfl⟩
  rw [← hx13] at X_13 ⊢
  clear hx13
  generalize w12.alloc (.cells #[.int .u8 120] 5 (1, 2)) = w13 at *
  have CO := oSOpen w13 T13.out.a.se K_13.1 N_13.1 X_13.1 A_13.1 (by decide) (by omega)
  rw [HO1.out, HN.out] at CO
  refine CO.mono ?_
  rintro e w14 ⟨pn, mn, cn, rfl, oB, seB, kpB⟩
  have T14 : Hid (TwoS w w14 s U1 Z1 M1 r U2 (SeaS.new false) M2) := T13.out.left seB HK1.out kpB
  have B_14 := B_13.k1 kpB
  clear CO T13 oB seB kpB K_13 N_13 X_13 A_13 B_13
  simp only [Option.isSome_none, Bool.false_eq_true, if_false]
  go_wp2_with fail
  refine (lKey12 w14 1 (by omega)).mono ?_
  rintro e w15 ⟨g15, rfl, _, o15, hb15⟩
  have T15 : Hid (TwoS w w15 s U1 Z1 M1 r U2 (SeaS.new false) M2) := T14.out.grow hb15
  have B_15 := B_14.below' hb15
  have K_15 := o15.both T14.out.aa
  clear T14 o15 hb15 B_14
  go_wp2_with fail
  refine (oSNonce w15 1 2 (by omega) (by omega)).mono ?_
  rintro e w16 ⟨a16, m16, c16, rfl, o16, hb16⟩
  have l16 := o16.toBs.len
  rw [nonL_length] at l16
  subst l16
  have T16 : Hid (TwoS w w16 s U1 Z1 M1 r U2 (SeaS.new false) M2) := T15.out.grow hb16
  have B_16 := B_15.below' hb16
  have K_16 := K_15.below' hb16
  have N_16 := o16.both T15.out.aa
  clear T15 o16 hb16 B_15 K_15
  have hbm : Below w16.heap.size w16 (w16.alloc (.cells #[.int .u8 97, .int .u8 98, .int .u8 99] 5 (3, 4))) := below_alloc w16 _
  have Y_17 := BA.mark1 (A := AA U1 U2) (w := w16) [97, 98, 99] #[.int .u8 97, .int .u8 98, .int .u8 99] (3, 4) rfl (by decide) T16.out.aa
  have T17 : Hid (TwoS w (w16.alloc (.cells #[.int .u8 97, .int .u8 98, .int .u8 99] 5 (3, 4))) s U1 Z1 M1 r U2 (SeaS.new false) M2) := T16.out.grow hbm
  have B_17 := B_16.below' hbm
  have K_17 := K_16.below' hbm
  have N_17 := N_16.below' hbm
  clear T16 hbm B_16 K_16 N_16
  have kc := fun (w : World) (C : Array Value) (n c : Nat) => Lib.run_convert_bytes_const (P := Tryz.prog) w 32 5 C n c Tryz.underlying32 Tryz.underlying5
  have kd := conv2
  go_wp2_with fail
  clear kc kd
  obtain ⟨x17, hx17⟩ : ∃ x, x = w16.heap.size := ⟨_, rfl⟩
  rw [← hx17] at Y_17 ⊢
  clear hx17
  generalize w16.alloc (.cells #[.int .u8 97, .int .u8 98, .int .u8 99] 5 (3, 4)) = w17 at *
  refine (C2.out w17 U2 r M2 _ _ _ _ _ _ _ _ T17.out.b.se K_17.n2 N_17.n2 (BA.nil _ _) Y_17.n2).mono ?_
  rintro e w18 ⟨az, mz, cz, rfl, oS, seS, kpS⟩
  have lS := oS.toBs.len
  rw [HL2.out] at lS
  subst lS
  have T18 : Hid (TwoS w w18 s U1 Z1 M1 r U2 Z2 M2) := T17.out.right seS HK2.out kpS
  have A_18 := oS.both T17.out.aa
  have B_18 := B_17.k2 kpS
  clear T17 oS seS kpS K_17 N_17 Y_17 C2 B_17
  go_wp2_with fail
  refine (lKey12 w18 1 (by omega)).mono ?_
  rintro e w19 ⟨g19, rfl, _, o19, hb19⟩
  have T19 : Hid (TwoS w w19 s U1 Z1 M1 r U2 Z2 M2) := T18.out.grow hb19
  have B_19 := B_18.below' hb19
  have A_19 := A_18.below' hb19
  have K_19 := o19.both T18.out.aa
  clear T18 o19 hb19 B_18 A_18
  go_wp2_with fail
  refine (oSNonce w19 1 2 (by omega) (by omega)).mono ?_
  rintro e w20 ⟨a20, m20, c20, rfl, o20, hb20⟩
  have l20 := o20.toBs.len
  rw [nonL_length] at l20
  subst l20
  have T20 : Hid (TwoS w w20 s U1 Z1 M1 r U2 Z2 M2) := T19.out.grow hb20
  have B_20 := B_19.below' hb20
  have A_20 := A_19.below' hb20
  have K_20 := K_19.below' hb20
  have N_20 := o20.both T19.out.aa
  clear T19 o20 hb20 B_19 A_19 K_19
  go_wp2_with fail
  have CO := oSOpen w20 T20.out.b.se K_20.1 N_20.1 (BA.nil (fun _ => True) w20).1 A_20.1 (by decide) (by omega)
  rw [HY.out] at CO
  have HK3 : Hid ((Z2.opened (keyB 1) (nonL 1 2) [] A2).Ok) := HK2.out.opened _ _ _ _
  obtain ⟨Z3, hZ3⟩ : ∃ Z, Z = Z2.opened (keyB 1) (nonL 1 2) [] A2 := ⟨_, rfl⟩
  rw [← hZ3] at CO HK3 HF HR
  clear hZ3
  refine CO.mono ?_
  rintro e w21 ⟨pd, md, cd, rfl, oB, seB, kpB⟩
  have T21 : Hid (TwoS w w21 s U1 Z1 M1 r U2 Z3 M2) := T20.out.right seB HK3.out kpB
  have D_21 : BA (AA U1 U2) w21 pd md cd [97, 98, 99] := BA.mono' oB fun j _ hj => T20.out.aa j hj
  have B_21 := B_20.k2 kpB
  clear CO T20 oB seB kpB K_20 N_20 A_20 B_20
  simp only [Option.isSome_some, if_true]
  have sB := B_21.1.str
  have sD := D_21.1.str
  have e3 : sv [97, 98, 99] = .string ⟨#[97, 98, 99]⟩ := rfl
  rw [e3] at sB sD
  clear B_21 D_21 e3
  go_wp2_with fail
  refine (lKey12 w21 1 (by omega)).mono ?_
  rintro e w22 ⟨g22, rfl, _, o22, hb22⟩
  have T22 : Hid (TwoS w w22 s U1 Z1 M1 r U2 Z3 M2) := T21.out.grow hb22
  have K_22 := o22.both T21.out.aa
  clear T21 o22 hb22
  clear sB sD
  have kc := fun (w : World) (C : Array Value) (n c : Nat) => Lib.run_convert_bytes_const (P := Tryz.prog) w 32 5 C n c Tryz.underlying32 Tryz.underlying5
  have hbm : Below w22.heap.size w22 (w22.alloc (.cells #[.int .u8 112] 5 (1, 2))) := below_alloc w22 _
  have B9 : Bs (w22.alloc (.cells #[.int .u8 112] 5 (1, 2))) (some ⟨w22.heap.size, 0, none⟩) 1 1 [112] := (BA.mark1 (A := AA U1 U2) (w := w22) [112] #[.int .u8 112] (1, 2) rfl (by decide) T22.out.aa).1
  have P_23 := Bss.one1 B9
  have hbn : Below w22.heap.size w22 ((w22.alloc (.cells #[.int .u8 112] 5 (1, 2))).alloc (.cells #[.slice (some ⟨w22.heap.size, 0, none⟩) 1 1] 32)) := hbm.trans ((below_alloc _ _).mono hbm.size)
  rw [show (w22.alloc (.cells #[.int .u8 112] 5 (1, 2))).heap.size = w22.heap.size + 1 from by simp] at P_23
  have T23 : Hid (TwoS w ((w22.alloc (.cells #[.int .u8 112] 5 (1, 2))).alloc (.cells #[.slice (some ⟨w22.heap.size, 0, none⟩) 1 1] 32)) s U1 Z1 M1 r U2 Z3 M2) := T22.out.grow hbn
  have K_23 := K_22.below' hbn
  clear T22 K_22 hbm hbn B9
  go_wp2_with fail
  clear kc
  generalize (w22.alloc (.cells #[.int .u8 112] 5 (1, 2))).alloc (.cells #[.slice (some ⟨w22.heap.size, 0, none⟩) 1 1] 32) = v9 at *
  have CD := oSDeriveI v9 T23.out.a.se HK1.out HI1.out.1 K_23.1 P_23 (by omega) (by omega) (by decide) (by rw [HI1.out.2.1, HI1.out.2.2]; decide)
  have HKD : Hid ((Z1.derive (keyB 1) (packL [[112]])).Ok ∧ (Z1.derive (keyB 1) (packL [[112]])).ideal = true ∧ (Z1.derive (keyB 1) (packL [[112]])).book.length = 1) := ⟨HK1.out.derive (by rw [HI1.out.2.1, HI1.out.2.2]; decide) _ _, by rw [SeaS.derive_ideal]; exact HI1.out.1, by rw [SeaS.derive_book]; exact HI1.out.2.1⟩
  refine CD.mono ?_
  rintro e wD ⟨aD, mD, cD, rfl, oD, seD, kpD⟩
  have lD := oD.toBs.len
  rw [noiseL_length] at lD
  subst lD
  have TD : Hid (TwoS w wD s U1 (Z1.derive (keyB 1) (packL [[112]])) M1 r U2 Z3 M2) := T23.out.left seD HKD.out.1 kpD
  clear CD oD seD kpD T23 K_23 P_23
  go_wp2_with fail
  have CI := oSIdeal wD TD.out.a.se
  rw [HKD.out.2.1] at CI
  refine CI.mono ?_
  rintro e w8 ⟨rfl, rfl⟩
  clear CI
  go_wp2_with fail
  have CR := oSReused wD TD.out.b.se
  rw [HR.out] at CR
  refine CR.mono ?_
  rintro e w8 ⟨rfl, rfl⟩
  clear CR
  go_wp2_with fail
  have CG := oSForged wD TD.out.b.se
  rw [HF.out] at CG
  refine CG.mono ?_
  rintro e w8 ⟨rfl, rfl⟩
  clear CG
  go_wp2_with fail
  have CS := oSSealed wD TD.out.a.se
  rw [HKD.out.2.2] at CS
  refine CS.mono ?_
  rintro e w8 ⟨rfl, rfl⟩
  clear CS
  have FIN := TD.out.a.bel
  go_wp2_with fail
  go_ret
  exact ⟨rfl, FIN⟩

end Go.Proofs.YtjpejheipkfanaaGreatDoor

/-
  Slices of rows of bytes that a call made itself: literals of one row, storing such a slice into a field, how they outlast what is written. No condition; no statement of the seat is proved here.
-/
namespace Go.Proofs.YtjpejheipkfanaaGreatDoor
open Go.RowKit

theorem infoBy : (Tryz.prog.info? 32).map (fun i => (i.zero, i.size, i.bytes)) = some (some (.slice none 0 0), 1, 24) := by kernel_rfl
theorem neB5 : 32 ≠ 5 := by decide
/-- A literal of one slice, the one that may come up. -/
theorem opBS1 {ops : Array Oper} {Q : Exit → Act → World → Prop} {i : Nat} {oi : Oper} (d : Option Tmp) (hi : ops[i]? = some oi) (hd : oi.dst = d) (hg : oi.guard = none) (x : Operand) (ho : oi.op = .buildSlice 63 1 #[(0, x)]) {K : Act → World → Prop} {a : Act} {w : World} (s : Option Addr) (n c : Nat) (hx : a.eval x = .slice s n c)
    (k : K (a.put d (.slice (some ⟨w.heap.size, 0, none⟩) 1 1)) (w.alloc (.cells #[.slice s n c] 32))) : wpOp Tryz.prog ops Q i K a w := by
  subst hd
  have hK : Hid _ := k
  clear k
  unfold wpOp
  simp only [hi]
  rw [if_pos (by simp [Region.wanted, hg])]
  left
  unfold Oper.wp execOp
  simp only [ho, List.map_toArray, List.map_cons, List.map_nil, hx]
  go_simp
  exact hK.out
/-- A slice of slices stored into a field, the one that may come up. -/
theorem opStS {ops : Array Oper} {Q : Exit → Act → World → Prop} {i : Nat} {oi : Oper} (hi : ops[i]? = some oi) (hd : oi.dst = none) (hg : oi.guard = none) (x y : Operand) (ho : oi.op = .store 63 x y) {K : Act → World → Prop} {a : Act} {w : World} (g o : Nat) (hx : a.eval x = .pointer (some ⟨g, o, none⟩)) (s : Option Addr) (n c : Nat) (hy : a.eval y = .slice s n c) (vs : List Value) (t : TypeId) (hb : Blk w g vs t) (ho2 : o < vs.length)
    (k : K a (w.setCell ⟨g, o, none⟩ (.slice s n c))) : wpOp Tryz.prog ops Q i K a w := by
  have hc := hb.cell o
  rw [List.getElem?_eq_getElem ho2] at hc
  have hf := hb.free o
  have hl := hb.lt
  have hK : Hid _ := k
  clear k
  unfold wpOp
  simp only [hi]
  rw [if_pos (by simp [Region.wanted, hg])]
  left
  unfold Oper.wp execOp
  simp only [ho, hx, hy]
  go_simp
  exact hK.out
theorem Blk.not5' {w : World} {g : Nat} {vs : List Value} {t : TypeId} (h : Blk w g vs t) (ht : t ≠ 5) : ∀ cur f, w.heap[g]? ≠ some (.cells cur 5 f) := fun cur f hh => by
  rw [show w.heap[g]? = _ from h] at hh
  simp only [Option.some.injEq, Obj.cells.injEq] at hh
  exact ht hh.2.1
theorem but_cells' (g : Nat) : ∀ (us : List Value) (w : World) (o : Nat), w.grownBy (w.setCells g o us) (some g)
  | [], _, _ => World.grownBy.refl _ _
  | u :: us, w, o => but_trans (but_set w g o u) (but_cells' g us _ (o + 1))
theorem OwB.grown {A : Nat → Prop} {e : TypeId} {w w' : World} {base r : Nat} {v : Value} {l : List (List UInt8)} (h : OwS (elB A) 1 e w base v l) (g : w.grownBy w' (some r)) (hr : r < base) (h5 : ∀ cur f, w.heap[r]? ≠ some (.cells cur 5 f)) : OwS (elB A) 1 e w' base v l :=
  h.keep (elB.grown g (fun j cur f hj => by obtain rfl := Option.some.inj hj; exact h5 cur f)) (fun j hj => g.block j (h.lt j hj).2 (fun e => by have := (h.lt j hj).1; have := Option.some.inj e; omega))
theorem OwB.below {A : Nat → Prop} {e : TypeId} {w w' : World} {base : Nat} {v : Value} {l : List (List UInt8)} (h : OwS (elB A) 1 e w base v l) (g : Below w.heap.size w w') : OwS (elB A) 1 e w' base v l :=
  h.keep (elB.keep fun j hj _ => g.block j hj) (fun j hj => g.block j (h.lt j hj).2)

end Go.Proofs.YtjpejheipkfanaaGreatDoor

/-
  The contract of Short. No condition but that lengths fit.
-/
namespace Go.Proofs.YtjpejheipkfanaaGreatDoor
open Go.RowKit

end Go.Proofs.YtjpejheipkfanaaGreatDoor

/-
  The contracts of the reference's Pack and SameAll, and of Short. Conditions: of Pack as of the program's; of the others none.
-/
namespace Go.Proofs.YtjpejheipkfanaaGreatDoor
open Go.RowKit

set_option maxHeartbeats 400000 in
theorem rPack (w : World) {a : Option Addr} {n c : Nat} {ls : List (List UInt8)} (ha : Bss w a n c ls) (hz : tot ls ≤ 100000) (hn : n ≤ 100000) :
    Calls Tryz.prog 47 #[.slice a n c] w (Gives w (packL ls)) := by
  by_cases h0 : n = 0
  · subst h0
    have e : ls = [] := List.length_eq_zero_iff.1 ha.len
    subst e
    clear ha
    go_enter Tryz.func47, Tryz.ntmps47
    go_wp2_with fail
    refine wp_loop_rounds 1 ?_; rw [rounds_succ]; go_wp2
    go_ret
    exact Gives.mk (Own.nil _ _) (Below.refl _ _)
  · obtain ⟨x, o, rfl, hx, hc⟩ := ha.at (by omega)
    have H : Hid (ls.length = n) := ha.len
    clear ha
    go_enter Tryz.func47, Tryz.ntmps47
    go_wp2_with fail
    go_loopw [3, 4] (fun v i wr => ∃ k : Nat, k ≤ n ∧ i = .int .i64 k ∧ Own wr w.heap.size v (packL (ls.take k)) ∧ Below w.heap.size w wr) (fun _ i _ => n - (intOf i).toNat)
    case atStart => exact ⟨0, Nat.zero_le _, rfl, Own.nil _ _, Below.refl _ _⟩
    case round =>
      obtain ⟨k, hk, rfl, ho, hb⟩ := hrel
      by_cases hlt : k < n
      · obtain ⟨p, m, q, c1, hp⟩ := Bss.part hc hb k hlt
        obtain ⟨r0, r1, r2⟩ := pack_room (by rw [H.out]; exact hlt) hp.len hz (by rw [H.out]; exact hn)
        have hs := hb.size
        have HS : Hid (packL (ls.take k) ++ putL m 4 ++ ls.getD k [] = packL (ls.take (k + 1))) := pack_step (by rw [H.out]; exact hlt) hp.len
        have hP := rPut 4 (m : Int) 4 wr (by omega) (by omega) (by omega) (by omega) (by omega)
        rw [Int.toNat_natCast, show (4 : Int).toNat = 4 from rfl] at hP
        have HP : Hid (Calls Tryz.prog 40 #[.int .u64 (m : Int), .int .i64 4] wr (Gives wr (putL m 4))) := hP
        clear hP
        have hC : ∀ w1, Below wr.heap.size wr w1 → ∀ w2, Below w.heap.size w1 w2 → w2.cell? ⟨x, o + k, none⟩ = some (.slice p m q) := fun w1 h1 w2 h2 => by
          rw [h2.cell (p := ⟨x, o + k, none⟩) hx, h1.cell (p := ⟨x, o + k, none⟩) (by simp; omega)]; exact c1
        have HC : Hid (∀ w1, Below wr.heap.size wr w1 → ∀ w2, Below w.heap.size w1 w2 → w2.cell? ⟨x, o + k, none⟩ = some (.slice p m q)) := hC
        clear hC
        go_wp2_with (first | (go_at_call 40; refine HP.out.mono ?_; rintro e w1 ⟨a1, m1, c1', rfl, ho1, hb1⟩) | (at_builtin; refine wpList_app _ rfl (.tmp 11) (.tmp 18) rfl w.heap.size _ _ rfl (ho.below hb1 (Nat.le_refl _)) _ _ _ _ rfl ho1.toBs r1 (Nat.le_trans hs hb1.size) ?_; intro v2 w2 ho2 hb2; have c2 := HC.out w1 hb1 w2 hb2) | (at_builtin; refine wpList_app _ rfl (.tmp 20) (.tmp 24) rfl w.heap.size _ _ rfl ho2 _ _ _ _ rfl (hp.below (hb.trans ((hb1.mono hs).trans hb2)) (Nat.le_refl _)) r2 (Nat.le_trans (Nat.le_trans hs hb1.size) hb2.size) ?_; intro v3 w3 ho3 hb3))
        go_roundw
        case rel => exact ⟨k + 1, by omega, by go_num, by rw [← HS.out]; exact ho3, hb.trans (((hb1.mono hs).trans hb2).trans hb3)⟩
        case measure => simp [intOf]; omega
      · go_wp2
        go_ret
        exact Gives.mk (pack_end H hlt ho) hb

theorem parts_inj {l m : List (List UInt8)} {n k : Nat} (H : Hid (l.length = n ∧ m.length = n)) (h : ¬ k < n) (hj : ∀ j, j < k → l.getD j [] = m.getD j []) : true = decide (l = m) := by
  symm
  rw [decide_eq_true_iff]
  obtain ⟨h1, h2⟩ := H.out
  apply List.ext_getElem (by omega)
  intro i h3 h4
  have := hj i (by omega)
  simpa [List.getD_eq_getElem?_getD, h3, h4] using this
theorem parts_no {l m : List (List UInt8)} {k : Nat} (h : ¬ l.getD k [] = m.getD k []) : false = decide (l = m) := by
  symm
  rw [decide_eq_false_iff_not]
  intro e
  subst e
  exact h rfl
theorem parts_step {l m : List (List UInt8)} {k : Nat} (H : Hid (∀ j, j < k → l.getD j [] = m.getD j [])) (h : l.getD k [] = m.getD k []) (j : Nat) (hj : j < k + 1) : l.getD j [] = m.getD j [] := by
  by_cases e : j = k
  · subst e; exact h
  · exact H.out j (by omega)
end Go.Proofs.YtjpejheipkfanaaGreatDoor

/-
  What layer 1's laws ask of Same and Xor, together. No condition; no statement of the seat is proved here.
-/
namespace Go.Proofs.YtjpejheipkfanaaGreatDoor

end Go.Proofs.YtjpejheipkfanaaGreatDoor

/-
  Plain mathematics: two lists of parts, each with its length ahead, are the same bytes just if they are the same. Condition: fewer than 1000000 bytes in all.
-/
namespace Go.Proofs.YtjpejheipkfanaaGreatDoor
open Go.RowKit

theorem put4_inj {n m : Nat} (hn : n ≤ 1000000) (hm : m ≤ 1000000) (h : putL n 4 = putL m 4) : n = m := by
  have e := congrArg getN h
  rw [getN_putL, getN_putL, show (256 : Nat) ^ 4 = 4294967296 from by decide] at e
  omega

theorem pack_inj (l : List (List UInt8)) : ∀ m, tot l ≤ 1000000 → tot m ≤ 1000000 → packL l = packL m → l = m := by
  induction l with
  | nil =>
    intro m _ _ h
    have e := congrArg List.length h
    rw [packL_length, packL_length] at e
    cases m with
    | nil => rfl
    | cons y q => simp [tot] at e
  | cons x r ih =>
    intro m hl hm h
    cases m with
    | nil =>
      have e := congrArg List.length h
      rw [packL_length, packL_length] at e
      simp [tot] at e
    | cons y q =>
      simp only [packL, List.append_assoc] at h
      obtain ⟨h1, h2⟩ := List.append_inj h (by rw [putL_length, putL_length])
      simp only [tot] at hl hm
      have hxy := put4_inj (by omega) (by omega) h1
      obtain ⟨h3, h4⟩ := List.append_inj h2 hxy
      rw [h3, ih q (by omega) (by omega) h4]

theorem pack_same (l m : List (List UInt8)) (hl : tot l ≤ 1000000) (hm : tot m ≤ 1000000) : decide (packL l = packL m) = decide (l = m) := by
  rw [Bool.eq_iff_iff, decide_eq_true_iff, decide_eq_true_iff]
  exact ⟨pack_inj l m hl hm, fun h => by rw [h]⟩
theorem xor_twice (l m : List UInt8) : xorL (xorL l m) m = l.take (xorL (xorL l m) m).length := by
  unfold xorL
  induction l generalizing m with
  | nil => simp
  | cons x r ih =>
    cases m with
    | nil => simp
    | cons y q =>
      simp only [List.zipWith_cons_cons, List.length_cons, List.take_succ_cons, List.cons.injEq]
      refine ⟨?_, ih q⟩
      rw [UInt8.xor_assoc, UInt8.xor_self, UInt8.xor_zero]
end Go.Proofs.YtjpejheipkfanaaGreatDoor

/-
  Rows of regions for layer 12's statements: a key of a number, a literal of one slice, whichever comes first. No condition; no statement of the seat is proved here.
-/
namespace Go.Proofs.YtjpejheipkfanaaGreatDoor
open Go.RowKit
set_option linter.unusedVariables false

theorem elO12.keep {A : Nat → Prop} {w w' : World} (hs : w.heap.size ≤ w'.heap.size) (hk : ∀ j, j < w.heap.size → A j → w'.heap[j]? = w.heap[j]?) : ∀ c vs, elO12 A w c vs → elO12 A w' c vs := by
  rintro c vs ⟨p, m, q, p', m', q', e, h1, h2, hf⟩
  exact ⟨p, m, q, p', m', q', e, h1.keep hs hk, h2.keep hs hk, hf⟩
theorem Acts12.grow {w w' : World} {a : Option Addr} {n c : Nat} {l : List Op12} (h : Acts12 w a n c l) (hb : Below w.heap.size w w') : ActsA (fun j => j < w.heap.size) w' a n c l :=
  Sl.keep h hb.size (elO12.keep hb.size fun j hj _ => hb.block j hj) fun j hj _ => hb.block j hj
theorem ActsA.grow {A : Nat → Prop} {w w' : World} {a : Option Addr} {n c : Nat} {l : List Op12} (h : ActsA A w a n c l) (hb : Below w.heap.size w w') : ActsA A w' a n c l :=
  Sl.keep h hb.size (elO12.keep hb.size fun j hj _ => hb.block j hj) fun j hj _ => hb.block j hj
theorem Grows.ofDrew {w u : World} (h : Grows w.drew u) : Below w.heap.size w u := (Below.refl _ w).drew.trans h
/-- What key leaves. -/
def KeyV (U : Nat → Prop) (n : Nat) (v : Value) (w : World) : Prop := ∃ g, v = .slice (some ⟨g, 0, none⟩) 32 32 ∧ BA (fun j => ¬ U j) w (some ⟨g, 0, none⟩) 32 32 (keyB n)
theorem KeyV.grow {U : Nat → Prop} {n : Nat} (v : Value) (w w' : World) (h : KeyV U n v w) (hg : Grows w w') : KeyV U n v w' := by
  obtain ⟨g, h1, h2⟩ := h
  exact ⟨g, h1, h2.below' hg⟩
/-- What a literal of one slice leaves. -/
def OneV (l : List UInt8) (v : Value) (w : World) : Prop := ∃ p, v = .slice p 1 1 ∧ Bss w p 1 1 [l]
theorem OneV.grow {l : List UInt8} (v : Value) (w w' : World) (h : OneV l v w) (hg : Grows w w') : OneV l v w' := by
  obtain ⟨p, h1, h2⟩ := h
  exact ⟨p, h1, h2.below hg (Nat.le_refl _)⟩
/-- What a nonce leaves. -/
def NonV (U : Nat → Prop) (h l : Nat) (v : Value) (w : World) : Prop := ∃ p c, v = .slice p 12 c ∧ BA (fun j => ¬ U j) w p 12 c (nonL h l)
theorem cKey {U : Nat → Prop} {W : World} (hU : ∀ j, U j → j < W.heap.size) (n : Nat) (hn : n ≤ 255) : ∀ w, Grows W w → Calls Tryz.prog 13 #[.int .u8 (n : Int)] w fun e w' => ∃ v, e = .returned v ∧ KeyV U n v w' ∧ Below w.heap.size w w' := fun w hg => (lKey12 w n hn).mono fun e w' ⟨g, he, _, ho, hb⟩ => ⟨_, he, ⟨g, rfl, ho.no fun j hj => Nat.lt_of_lt_of_le (hU j hj) (Below.size hg)⟩, hb⟩
theorem cNon {U : Nat → Prop} {W : World} (hU : ∀ j, U j → j < W.heap.size) (h l : Nat) (hh : h ≤ 18446744073709551615) (hl : l ≤ 4294967295) : ∀ w, Grows W w → Calls Tryz.prog 14 #[.int .u64 (h : Int), .int .u32 (l : Int)] w fun e w' => ∃ v, e = .returned v ∧ NonV U h l v w' ∧ Below w.heap.size w w' := fun w hg => (oSNonce w h l hh hl).mono fun e w' ⟨a, m, c, he, ho, hb⟩ => by
  have hm := ho.toBs.len
  rw [nonL_length] at hm
  subst hm
  exact ⟨_, he, ⟨a, c, rfl, ho.no fun j hj => Nat.lt_of_lt_of_le (hU j hj) (Below.size hg)⟩, hb⟩
/-- A literal of one slice, wanted. -/
theorem opBS1w {ops : Array Oper} {Q : Exit → Act → World → Prop} {i : Nat} {oi : Oper} (d : Option Tmp) (hi : ops[i]? = some oi) (hd : oi.dst = d) (x : Operand) (ho : oi.op = .buildSlice 63 1 #[(0, x)]) {K : Act → World → Prop} {a : Act} {w : World} (hw : Region.wanted oi (yielded ops a.tmps) = true) (s : Option Addr) (n c : Nat) (hx : a.eval x = .slice s n c)
    (k : K (a.put d (.slice (some ⟨w.heap.size, 0, none⟩) 1 1)) (w.alloc (.cells #[.slice s n c] 32))) : wpOp Tryz.prog ops Q i K a w := by
  subst hd
  have hK : Hid _ := k
  clear k
  unfold wpOp
  simp only [hi]
  rw [if_pos hw]
  left
  unfold Oper.wp execOp
  simp only [ho, List.map_toArray, List.map_cons, List.map_nil, hx]
  go_simp
  exact hK.out
theorem mkOne {ops : Array Oper} {Q : Exit → Act → World → Prop} {W : World} (i : Nat) (d : Tmp) (x : Operand) (l : List UInt8) {oi : Oper} {a : Act} (hi : ops[i]? = some oi) (hd : oi.dst = some d) (ho : oi.op = .buildSlice 63 1 #[(0, x)]) (hw : Region.wanted oi (yielded ops a.tmps) = true) (s : Option Addr) (n c : Nat) (hx : a.eval x = .slice s n c) (hb : ∀ w, Grows W w → Bs w s n c l) : Mk Tryz.prog ops Q (Grows W) i d (OneV l) a := by
  intro K w hs k
  refine opBS1w (some d) hi hd x ho hw s n c hx ?_
  exact k _ _ ⟨_, rfl, Bss.one1 (hb w hs)⟩ (below_alloc _ _) (Grows.trans hs (below_alloc _ _))
/-- Numbers of noise tell keys and ends apart. -/
theorem keys_apart {S : SeaS} (h : S.Ok) {a b : Nat} {l m : List (List UInt8)} {c c' : Kid} (hl : tot l ≤ 1000000) (hm : tot m ≤ 1000000) (hc : S.kid (keyB a) (packL l) = some c) (hc' : S.kid (keyB b) (packL m) = some c') : decide (noiseL c.num 32 = noiseL c'.num 32) = (decide (a % 4 = b % 4) && decide (l = m)) := by
  have hb := h.bound
  have h1 := h.kids c (List.mem_of_find?_eq_some hc)
  have h2 := h.kids c' (List.mem_of_find?_eq_some hc')
  rw [Bool.eq_iff_iff]
  simp only [decide_eq_true_eq, Bool.and_eq_true]
  rw [noise_inj (by omega) (by omega) (by omega), SeaS.num_apart h hc hc', keyB_inj]
  constructor
  · rintro ⟨x, y⟩
    exact ⟨x, pack_inj l m hl hm y⟩
  · rintro ⟨x, rfl⟩
    exact ⟨x, rfl⟩

end Go.Proofs.YtjpejheipkfanaaGreatDoor

/-
  The contract of layer 11's reference's Noise: bytes of a number, in memory of the call's own. Conditions: the number fits 64 bits; at most 3000 bytes.
-/
namespace Go.Proofs.YtjpejheipkfanaaGreatDoor
open Go.RowKit

/-- A slice that begins at the call's own row. -/
theorem Gives.cut {w w' : World} {a : Option Addr} {n c k : Nat} {l m : List UInt8} (h : Own w' w.heap.size (.slice a n c) l) (hb : Below w.heap.size w w') (hk : k ≤ n) (hm : l.take k = m) : Gives w m (.returned (.slice a k c)) w' := by
  have hk' := hk
  subst hm
  refine ⟨a, k, c, rfl, ?_, hb⟩
  obtain ⟨h1, h2⟩ := h
  rcases h2 with ⟨h2, h0⟩ | ⟨g, cap, cur, hv, hg, hh, hn, hmx, hc, ht⟩
  · simp only [Value.slice.injEq] at h2
    obtain ⟨rfl, rfl, rfl⟩ := h2
    obtain rfl : k = 0 := by omega
    rw [List.take_zero]
    exact Own.nil _ _
  · simp only [Value.slice.injEq] at hv
    obtain ⟨rfl, rfl, rfl⟩ := hv
    have hl : (l.take k).length = k := by rw [List.length_take]; omega
    refine ⟨by rw [cs_length, hl, Nat.mul_one], Or.inr ⟨g, c, cur, by rw [hl], hg, hh, by omega, hmx, hc, ?_⟩⟩
    rw [hl, Nat.mul_one]
    have e : cs (l.take k) = (cs l).take k := by simp [cs]
    rw [e, ← ht, List.take_take, Nat.min_eq_left (by omega)]

theorem high_byte {y : Nat} (h : y < 18446744073709551616) : 0 ≤ (y : Int) / 72057594037927936 ∧ (y : Int) / 72057594037927936 ≤ 255 := by omega
theorem noise_room (n : Nat) {t : Nat} (h : t ≤ 3000) (b : UInt8) : (putL n 8 ++ lcgL n t).length + [b].length ≤ 1000000000 := by
  rw [List.length_append, putL_length, lcgL_length, List.length_singleton]
  omega
theorem noise_end (n : Nat) {t m : Nat} (ht : t = 0 ∨ 8 + t ≤ m) (hlt : ¬ 8 + t < m) : (putL n 8 ++ lcgL n t).take m = noiseL n m := by
  unfold noiseL
  rcases ht with rfl | ht
  · rw [show m - 8 = 0 from by omega]
  · rw [show m - 8 = t from by omega]

theorem lcgI_succ (n t : Nat) : lcgI n (t + 1) = lcg (lcgI n t) := rfl
theorem lcg_more {n t x : Nat} (hx : x = lcgI n t) : lcg x = lcgI n (t + 1) := by rw [hx, lcgI_succ]
theorem noise_more {n t x : Nat} (hx : x = lcgI n t) : putL n 8 ++ lcgL n t ++ [UInt8.ofNat ((lcg x : Int) / 72057594037927936).toNat] = putL n 8 ++ lcgL n (t + 1) := by
  have h1 := lcg_byte (lcg_lt x)
  have e : lcgB n t = UInt8.ofNat (lcg x / 72057594037927936) := by unfold lcgB; rw [lcgI_succ, hx]
  rw [lcgL_succ, List.append_assoc, e, ← h1, Int.toNat_natCast, UInt8.ofNat_toNat]

set_option maxHeartbeats 1000000 in
theorem rNoise (n s : Int) (w : World) (hs : s ≤ 3000) (hn0 : 0 ≤ n) (hn : n ≤ 18446744073709551615) (hlo : -9223372036854775808 ≤ s) :
    Calls Tryz.prog 41 #[.int .u64 n, .int .i64 s] w (Gives w (noiseL n.toNat s.toNat)) := by
  obtain ⟨n, rfl⟩ : ∃ q : Nat, n = q := ⟨n.toNat, by omega⟩
  rw [Int.toNat_natCast]
  go_enter Tryz.func41, Tryz.ntmps41
  go_wp2_with fail
  refine (rPut 8 (n : Int) 8 w (by omega) (by omega) (by omega) (by omega) (by omega)).mono ?_
  rintro e w1 ⟨a1, m1, c1, rfl, o1, hb1⟩
  rw [Int.toNat_natCast, show Int.toNat 8 = 8 from rfl] at o1
  have HO : Hid (Own w1 w.heap.size (.slice a1 m1 c1) (putL n 8 ++ lcgL n 0)) := by have := o1; rwa [show lcgL n 0 = [] from rfl, List.append_nil]
  clear o1
  go_wp2_with fail
  go_loopw [5, 6, 7] (fun v x i wr => ∃ (t : Nat), (t = 0 ∨ (8 + t : Int) ≤ s) ∧ i = .int .i64 ((8 + t : Nat) : Int) ∧ x = .int .u64 ((lcgI n t : Nat) : Int) ∧ Own wr w.heap.size v (putL n 8 ++ lcgL n t) ∧ Below w.heap.size w wr) (fun _ _ i _ => (s - intOf i).toNat)
  case atStart => exact ⟨0, Or.inl rfl, rfl, rfl, HO.out, hb1⟩
  case round =>
    obtain ⟨t, ht, rfl, rfl, ho, hb⟩ := hrel
    clear HO hb1
    have ht3 : t ≤ 3000 := by omega
    by_cases hlt : ((8 + t : Nat) : Int) < s
    · obtain ⟨x, hx⟩ : ∃ x, x = lcgI n t := ⟨_, rfl⟩
      have HY : Hid (lcg x = lcgI n (t + 1)) := lcg_more hx
      have HL : Hid (putL n 8 ++ lcgL n t ++ [UInt8.ofNat ((lcg x : Int) / 72057594037927936).toNat] = putL n 8 ++ lcgL n (t + 1)) := noise_more hx
      rw [← hx]
      have hw := lcg_int x
      have hxl : x < 18446744073709551616 := by rw [hx]; exact lcgI_lt (by omega) _
      have hyl : lcg x < 18446744073709551616 := lcg_lt x
      clear hx
      generalize lcg x = y at *
      obtain ⟨i, hi⟩ : ∃ i : Nat, i = 8 + t := ⟨_, rfl⟩
      rw [← hi] at hlt ⊢
      have Hi : Hid (i = 8 + t) := hi
      have hi3 : i ≤ 3100 := by omega
      clear hi ht
      have hz := noise_room n ht3 (UInt8.ofNat ((y : Int) / 72057594037927936).toNat)
      have hhb := high_byte hyl
      have hsz : w.heap.size ≤ wr.heap.size := hb.size
      go_wp2_with (at_builtin; refine wpList_app _ rfl _ _ rfl w.heap.size _ _ rfl (ho.below (below_alloc _ _) (Nat.le_refl _)) _ 1 1 [UInt8.ofNat ((y : Int) / 72057594037927936).toNat] rfl (Bs.one _ _ hhb.1 hhb.2) hz (by rw [World.size_alloc]; exact Nat.le_succ_of_le hsz) ?_; intro v2 w2 hown2 hbel2)
      go_roundw
      case rel => exact ⟨t + 1, Or.inr (by have := Hi.out; omega), by rw [show ((i : Int) + 1) = ((8 + (t + 1) : Nat) : Int) from by have := Hi.out; omega], by rw [HY.out], by rw [← HL.out]; exact hown2, (hb.alloc hsz _).trans hbel2⟩
      case measure => simp [intOf]; omega
    · by_cases h0 : s < 0
      · have e : s.toNat = 0 := by omega
        have HE : Hid (noiseL n s.toNat = []) := by show _ = _; rw [e]; rfl
        clear e ht
        go_wp2_with fail
        go_ret
        exact Gives.mk (by rw [HE.out]; exact Own.nil _ _) hb
      · obtain ⟨m, rfl⟩ : ∃ m : Nat, s = m := ⟨s.toNat, by omega⟩
        obtain ⟨a5, m5, c5, rfl, hb5⟩ := Own.bs3 ho
        have hl5 : m5 = 8 + t := by have := hb5.len; rw [List.length_append, putL_length, lcgL_length] at this; omega
        have hm5 : m ≤ m5 := by omega
        have HE : Hid ((putL n 8 ++ lcgL n t).take m = noiseL n (m : Int).toNat) := by
          show _ = _
          rw [Int.toNat_natCast]
          exact noise_end n (ht.imp id fun h => by omega) (by omega)
        have HO5 : Hid (Own wr w.heap.size (.slice a5 m5 c5) (putL n 8 ++ lcgL n t)) := ho
        obtain ⟨hcut, hbc⟩ := Bs.cutHigh hb5 m hm5
        have hH : Hid (m ≤ m5) := hm5
        clear ht hl5 ho hbc hm5 hb5
        go_wp2_with fail
        go_ret
        exact Gives.cut HO5.out hb hH.out HE.out

end Go.Proofs.YtjpejheipkfanaaGreatDoor
