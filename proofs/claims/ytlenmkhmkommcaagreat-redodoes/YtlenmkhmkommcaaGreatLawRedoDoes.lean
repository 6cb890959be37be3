/-
  Proved: for any pages, any epochs, any fuse, whatever is kept and whatever somebody else does the statement RedoDoes of layer 16 answers true and leaves its arguments as they were. Conditions beside the statement's own: none.
-/
import Derived.Test.YtlenmkhmkommcaaGreatRows
import Derived.Test.YtlenmkhmkommcaaGreatJ32
import Derived.Below
import Derived.Deep.DeepCutAuto
import Derived.Deep.CutBlock
import Derived.ChangeOld
namespace Go.Proofs.YtlenmkhmkommcaaGreat
namespace RedoDoesLaw
open Go.ChangeShapes Go.WideShapes Go.ChangeAt Go.RowKit
open Go.ChangeMaps (open_string shut_string)
set_option linter.unusedVariables false

theorem own : ownKnob Tryz.prog.godebug = none := by kernel_rfl
theorem laidOut : laidOutB Tryz.prog = true := by kernel_rfl

set_option maxRecDepth 100000 in
set_option maxHeartbeats 4000000 in
theorem walk (a0 : Option Addr) (len0 cap0 : Nat) (l0 : List Pag) (a1 : Int) (a2 : Int) (a3 : Option Addr) (len3 cap3 : Nat) (l3 : List Bool) (a4 : Option Addr) (len4 cap4 : Nat) (l4 : List Pok) (a5 : Int) (a6 : Int) (w : World) (w0 : Pags w a0 len0 cap0 l0) (w1 : (Lit.int .i64 a1).wf = true) (w2 : (Lit.int .i64 a2).wf = true) (w3 : BoW w a3 len3 cap3 l3) (w4 : Pokes w a4 len4 cap4 l4) (w5 : (Lit.int .i64 a5).wf = true) (w6 : (Lit.int .i64 a6).wf = true) :
    Calls Tryz.prog 3 #[.slice a0 len0 cap0, .int .i64 a1, .int .i64 a2, .slice a3 len3 cap3, .slice a4 len4 cap4, .int .i64 a5, .int .i64 a6] w fun e w' => e = .returned (.bool true) ∧ Below w.heap.size w w' := by
  have hlen0 : l0.length = len0 := Sl.len w0
  have hcap0 := Sl.cap w0
  have hlen4 : l4.length = len4 := Sl.len w4
  have hcap4 := Sl.cap w4
  have hk3 : len3 ≤ cap3 ∧ cap3 ≤ maxLen := ⟨w3.1.2.1, w3.1.2.2.1⟩
  unfold maxLen at hcap0 hcap4 hk3
  have b1 := bounds_i64 w1
  have b2 := bounds_i64 w2
  have b5 := bounds_i64 w5
  have b6 := bounds_i64 w6
  have CWK : Hid (∀ u, Calls Tryz.prog 6 #[] u fun e w' => e = .returned (.bool true) ∧ Below u.heap.size u w') := fun u => lWorks16 u
  have W0 : Hid (Pags w a0 len0 cap0 l0) := w0
  have W3 : Hid (BoW w a3 len3 cap3 l3) := w3
  have W4 : Hid (Pokes w a4 len4 cap4 l4) := w4
  have HL4 : Hid (l4.length = len4) := hlen4
  obtain ⟨b1l, b1h⟩ := b1
  obtain ⟨b2l, b2h⟩ := b2
  obtain ⟨b5l, b5h⟩ := b5
  obtain ⟨b6l, b6h⟩ := b6
  clear w0 w1 w2 w3 w4 w5 w6 hlen4
  by_cases h1 : (30 : Int) < len0
  · go_enter Tryz.func3, Tryz.ntmps3
    go_wp2_with fail
    refine (CWK.out w).mono ?_
    rintro e y1 ⟨rfl, hb1⟩
    go_wp2_with fail
    go_ret
    exact ⟨rfl, hb1⟩
  by_cases h2 : (60 : Int) < len3
  · go_enter Tryz.func3, Tryz.ntmps3
    go_wp2_with fail
    refine (CWK.out w).mono ?_
    rintro e y1 ⟨rfl, hb1⟩
    go_wp2_with fail
    go_ret
    exact ⟨rfl, hb1⟩
  by_cases h3 : (10 : Int) < len4
  · go_enter Tryz.func3, Tryz.ntmps3
    go_wp2_with fail
    refine (CWK.out w).mono ?_
    rintro e y1 ⟨rfl, hb1⟩
    go_wp2_with fail
    go_ret
    exact ⟨rfl, hb1⟩
  by_cases h4 : (1099511627776 : Int) < a1
  · go_enter Tryz.func3, Tryz.ntmps3
    go_wp2_with fail
    refine (CWK.out w).mono ?_
    rintro e y1 ⟨rfl, hb1⟩
    go_wp2_with fail
    go_ret
    exact ⟨rfl, hb1⟩
  by_cases h5 : (1099511627776 : Int) < a5
  · go_enter Tryz.func3, Tryz.ntmps3
    go_wp2_with fail
    refine (CWK.out w).mono ?_
    rintro e y1 ⟨rfl, hb1⟩
    go_wp2_with fail
    go_ret
    exact ⟨rfl, hb1⟩
  have hl60 : len3 ≤ 60 := by omega
  go_enter Tryz.func3, Tryz.ntmps3
  go_wp2_with fail
  go_loopw [15] (fun i wr => ∃ k : Nat, k ≤ len4 ∧ i = .int .i64 (k : Int) ∧ Hid (∀ x ∈ l4.take k, x.bytes.length ≤ 600) ∧ Hid (Below w.heap.size w wr)) (fun i _ => len4 - (intOf i).toNat)
  case atStart => exact ⟨0, Nat.zero_le _, rfl, fun x hx => by simp at hx, Below.refl _ _⟩
  case round =>
    obtain ⟨k, hk, rfl, HG, HB⟩ := hrel
    by_cases hlt : k < len4
    · have j0 : (k : Int) < (len4 : Int) := by omega
      obtain ⟨x, hx⟩ : ∃ x, l4[k]? = some x := ⟨_, List.getElem?_eq_getElem (by rw [HL4.out]; exact hlt)⟩
      obtain ⟨b, o, p, m, q, ha, hlb0, hrg, hBA, _⟩ := W4.out.at HB.out hx
      have hlb : b < wr.heap.size := Nat.lt_of_lt_of_le hlb0 HB.out.size
      have c3 : wr.cell? ⟨b, o + k * 5 + 3, none⟩ = some (.slice p m q) := hrg 3 _ rfl
      have hm := hBA.1.max
      have HM : Hid (x.bytes.length = m) := hBA.1.len
      have HX : Hid (l4[k]? = some x) := hx
      clear hx hrg hBA
      rw [ha]
      by_cases t1 : (600 : Int) < (m : Int)
      · go_wp2_with fail
        refine (CWK.out wr).mono ?_
        rintro e y1 ⟨rfl, hb1⟩
        have FIN : Hid (Below w.heap.size w y1) := HB.out.trans (hb1.mono HB.out.size)
        clear hb1 HB
        go_wp2_with fail
        go_ret
        exact ⟨rfl, FIN.out⟩
      · have HN : Hid (∀ y ∈ l4.take (k + 1), y.bytes.length ≤ 600) := fun y hy => by
          rw [List.take_add_one, HX.out] at hy
          rcases List.mem_append.1 hy with hy | hy
          · exact HG.out y hy
          · simp at hy
            subst hy
            rw [HM.out]
            omega
        go_wp2_with fail
        go_roundw
        case rel => exact ⟨k + 1, by omega, by go_num, HN, HB⟩
        case measure => simp [intOf]; omega
    · have j0 : ¬ (k : Int) < (len4 : Int) := by omega
      rw [List.take_of_length_le (by rw [HL4.out]; omega)] at HG
      obtain ⟨D1, D4, D5, D6, S1, LL, z1, z2, z3, PL⟩ := Play.mk' (E := a1) (fuse := a2) b2h (imgL l0) l3 (pk := l4) (by rw [HL4.out]; omega) a5 a6
      have HPL : Hid (Play a1 a2 (imgL l0) l3 l4 a5 a6 D1 D4 D5 D6 S1 LL z1 z2 z3) := PL
      have CK : Hid (∀ u, Calls Tryz.prog 16 #[.int .u8 1] u (KeysC u 1)) := fun u => lKey13 u 1 (by omega)
      clear PL
      obtain ⟨DN, hDN⟩ : ∃ DN, DN = DskS.new PowS.new 40 := ⟨_, rfl⟩
      obtain ⟨P2, hP2⟩ : ∃ P2, P2 = DN.p.set a2 true := ⟨_, rfl⟩
      obtain ⟨Df, hDf⟩ : ∃ Df : DskS, Df = { DN with p := P2 } := ⟨_, rfl⟩
      obtain ⟨DC, hDC⟩ : ∃ DC, DC = D1.crash l3 := ⟨_, rfl⟩
      obtain ⟨P3, hP3⟩ : ∃ P3, P3 = DC.p.back := ⟨_, rfl⟩
      obtain ⟨D3, hD3⟩ : ∃ D3 : DskS, D3 = { DC with p := P3 } := ⟨_, rfl⟩
      have HDN : Hid (DN = DskS.new PowS.new 40) := hDN
      have HDF : Hid (Df = { DN with p := P2 }) := hDf
      have HD3 : Hid (D3 = { DC with p := P3 }) := hD3
      have hf : Df = { DskS.new PowS.new 40 with p := PowS.new.set a2 true } := by subst hDf hP2 hDN; rfl
      have h3e : D3 = { D1.crash l3 with p := (D1.crash l3).p.back } := by subst hD3 hP3 hDC; rfl
      have f0 : Df.fit 0 := by rw [hf]; exact HPL.out.f0
      have wr0 : wrtD Df (SeaS.new true) (keyC 1) a1 (imgL l0) = (D1, z1) := by rw [hf]; exact HPL.out.wr
      have hid1 : Hid (S1.ideal = true) := by show _ = _; rw [← HPL.out.ws, wrtS_ideal]; rfl
      have HPO : Hid (D3.pokeR l4 = D4) := by rw [h3e]; exact HPL.out.po
      have F3F : Hid (D3.fit 78) := by rw [h3e]; exact HPL.out.f3
      have HF6 : Hid (D6.fit 235) := HPL.out.f6
      have HN6 : Hid (D6.n = 40) := HPL.out.n6
      have CPF : Hid (∀ (u : World) (r : Nat), Pw u r DN.p → Calls Tryz.prog 13 #[.pointer (some ⟨r, 0, none⟩), .int .i64 a2, .bool true] u fun e w' => e = .returned (.tuple #[]) ∧ Pw w' r P2 ∧ Kp (fun k => k = r) u w') := fun u r h => by rw [hP2]; exact oPFuse u h a2 true ⟨b2l, b2h⟩
      have CRF : Hid (∀ u : World, Calls Tryz.prog 14 #[.agg [.int .i64 (DN.p.steps : Int), .int .i64 DN.p.fuse, .bool DN.p.done, .bool DN.p.down].toArray, .int .i64 a2, .bool true] u fun e w' => e = .returned (pv P2) ∧ Below u.heap.size u w') := fun u => by rw [hP2]; exact rPFuse u DN.p a2 true
      have CW : Hid (∀ (u : World) (U F V : Nat → Prop) (d r s : Nat) (M : SeaM) (ak a : Option Addr) (ck n c : Nat) (A : Nat → Prop), Bth U F V u d r s Df (SeaS.new true) M → BA (fun j => ¬ V j) u ak 32 ck (keyC 1) → Imgs A u a n c (imgL l0) → (∀ j, A j → ¬ U j ∧ ¬ V j) → Calls Tryz.prog 17 #[.pointer (some ⟨d, 0, none⟩), .pointer (some ⟨s, 0, none⟩), .slice ak 32 ck, .int .i64 a1, .slice a n c] u (WrtP U F V u d r s D1 S1 M z1)) := fun u U F V d r s M ak a ck n c A g1 g2 g3 gA => by
        have h9 := oWrite16 u g1 f0 (by omega) (by show 0 + 0 + 3 ≤ 1000000; omega) g2 a1 ⟨b1l, by omega⟩ g3 gA
        rw [wr0, HPL.out.ws] at h9
        exact h9
      have CRW : Hid (∀ (u : World) (A : Nat → Prop) {gk : Nat} {a7 : Option Addr} {n7 c7 : Nat}, (∀ j, u.heap.size ≤ j → A j) → RD A u Df q0 → RS A u (SeaS.new true) du0 → BA A u (some ⟨gk, 0, none⟩) 32 32 (keyC 1) → Imgs A u a7 n7 c7 (imgL l0) → Calls Tryz.prog 15 #[dv Df q0, rsV (SeaS.new true) du0, .slice (some ⟨gk, 0, none⟩) 32 32, .int .i64 a1, .slice a7 n7 c7] u fun e w' => ∃ q' d', e = .returned (.tuple #[dv D1 q', rsV S1 d', .int .i64 z1]) ∧ RD A w' D1 q' ∧ RS A w' S1 d' ∧ Below u.heap.size u w') := fun u A _ _ _ _ hA g1 g2 g3 g4 => by
        have h9 := rWrite16 u hA g1 g2 f0 (by omega) (by show 0 ≤ 1000; omega) (by show 0 ≤ 1000000; omega) g3 a1 ⟨b1l, by omega⟩ g4
        rw [wr0, HPL.out.ws] at h9
        exact h9
      have CC : Hid (∀ (u : World) (U F : Nat → Prop) (d r : Nat), Dk U F u d r D1 → BoA (fun j => ¬ F j) u a3 len3 cap3 l3 → Calls Tryz.prog 18 #[.pointer (some ⟨d, 0, none⟩), .slice a3 len3 cap3] u fun e w' => e = .returned (.tuple #[]) ∧ Dks U F u d r DC w') := fun u U F d r g1 g2 => by rw [hDC]; exact oDCrash u g1 HPL.out.f1 (by omega) g2 hl60
      have CPB : Hid (∀ (u : World) (r : Nat), Pw u r DC.p → Calls Tryz.prog 19 #[.pointer (some ⟨r, 0, none⟩)] u fun e w' => e = .returned (.tuple #[]) ∧ Pw w' r P3 ∧ Kp (fun k => k = r) u w') := fun u r h => by rw [hP3]; exact oPBack u h
      have CRC : Hid (∀ (u : World) (A : Nat → Prop) (q : Quad), RD A u D1 q → (∀ j, u.heap.size ≤ j → A j) → Bo u a3 len3 cap3 l3 → Calls Tryz.prog 20 #[dv D1 q, .slice a3 len3 cap3] u fun e w' => ∃ q', e = .returned (dv DC q') ∧ RD A w' DC q' ∧ Below u.heap.size u w') := fun u A q g1 g2 g3 => by rw [hDC]; exact rCrash u g1 g2 g3 (by have := HPL.out.f1.safe; have := HPL.out.f1.loose; omega)
      have CRB : Hid (∀ u : World, Calls Tryz.prog 21 #[.agg [.int .i64 (DC.p.steps : Int), .int .i64 DC.p.fuse, .bool DC.p.done, .bool DC.p.down].toArray] u fun e w' => e = .returned (pv P3) ∧ Below u.heap.size u w') := fun u => by rw [hP3]; exact rPBack u DC.p
      have CRD : Hid (∀ (u : World) (U F V : Nat → Prop) (d r s : Nat) (M : SeaM) (ak : Option Addr) (ck : Nat), Bth U F V u d r s D4 S1 M → BA (Out U V) u ak 32 ck (keyC 1) → Calls Tryz.prog 24 #[.pointer (some ⟨d, 0, none⟩), .pointer (some ⟨s, 0, none⟩), .slice ak 32 ck, .int .i64 a5, .int .i64 a6] u (RedP U F V u d r s (D5, LL, z2) S1 M)) := fun u U F V d r s M ak ck g1 g2 => by
        have h9 := oRead16 u g1 HPL.out.f4 (by omega) g2 a5 a6 ⟨b5l, by omega⟩ ⟨b6l, b6h⟩
        rw [HPL.out.re, HPL.out.rs] at h9
        exact h9
      have CA : Hid (∀ (u : World) (U F : Nat → Prop) (d r : Nat) (A : Nat → Prop) (a : Option Addr) (n c : Nat), Dk U F u d r D5 → Imgs A u a n c LL → (∀ j, A j → ¬ F j) → Calls Tryz.prog 27 #[.pointer (some ⟨d, 0, none⟩), .slice a n c] u fun e w' => e = .returned (.int .i64 z3) ∧ Dks U F u d r D6 w') := fun u U F d r A a n c g1 g2 g3 => by
        have h8 : n ≤ 23 := by rw [← Sl.len g2]; exact HPL.out.ll
        have h9 := oApply16 u g1 HPL.out.f5 g2 g3 (by omega)
        rw [HPL.out.ap] at h9
        exact h9
      have CRA : Hid (∀ (u : World) (A : Nat → Prop) (q : Quad) (a : Option Addr) (n c : Nat), (∀ j, u.heap.size ≤ j → A j) → RD A u D5 q → Imgs A u a n c LL → Calls Tryz.prog 28 #[dv D5 q, .slice a n c] u fun e w' => ∃ q', e = .returned (.tuple #[dv D6 q', .int .i64 z3]) ∧ RD A w' D6 q' ∧ Below u.heap.size u w') := fun u A q a n c hA g1 g2 => by
        have h8 : n ≤ 23 := by rw [← Sl.len g2]; exact HPL.out.ll
        have h9 := rApply16 u hA g1 HPL.out.f5 g2 (by omega)
        rw [HPL.out.ap] at h9
        exact h9
      clear hDN hP2 hDf hDC hP3 hD3 hf h3e f0 wr0
      rename World => wz
      go_wp2_with fail
      refine (oPNew wz).mono ?_
      rintro e y1 ⟨r, rfl, hr, hp, hb1⟩
      go_wp2_with fail
      refine (oDNew y1 hp 40 (by omega)).mono ?_
      rintro e y2 ⟨d, U, F, rfl, hd, hU, hb2⟩
      have Q1 : Hid (Below w.heap.size w y1) := HB.out.trans (hb1.mono HB.out.size)
      have Q2 : Hid (Below y1.heap.size y1 y2) := hb2
      have HR0 : Hid (w.heap.size ≤ r) := Nat.le_trans HB.out.size hr
      have HD : Hid (Dk U F y2 d r (DskS.new PowS.new 40)) := hd
      have HU : Hid (∀ j, U j → j = r ∨ y1.heap.size ≤ j) := hU
      clear hd hU hb2 hb1 hp hr HB
      go_wp2_with fail
      refine (oSNew true y2).mono ?_
      rintro e y3 ⟨s, V, M, rfl, hs3, hV3, hb3⟩
      have S3 : Hid (StaB w y3 U F V d r s (DskS.new PowS.new 40) (SeaS.new true) M) := StaB.first Q1.out HR0.out HD.out HU.out Q2.out hs3 hV3 hb3
      clear hs3 hV3 hb3 HD HU Q1 Q2 HR0
      go_wp2_with fail
      refine (rPNew y3).mono ?_
      rintro e y4 ⟨rfl, hb4⟩
      have S4 : Hid (StaB w y4 U F V d r s (DskS.new PowS.new 40) (SeaS.new true) M) := S3.out.grow hb4
      clear S3 hb4
      go_wp2_with fail
      refine (rDNew y4 PowS.new 40 (by omega)).mono ?_
      rintro e y5 ⟨rfl, hb5⟩
      have S5 : Hid (StaB w y5 U F V d r s (DskS.new PowS.new 40) (SeaS.new true) M) := S4.out.grow hb5
      clear S4 hb5
      have z7 : Blk (y5.alloc (.cells #[.int .i64 0, .int .i64 0, .bool false, .bool false, .int .i64 0, .slice none 0 0, .slice none 0 0, .slice none 0 0, .slice none 0 0, .int .i64 0] 42)) y5.heap.size z40 42 := Blk.newAt y5 _ _ y5.heap.size rfl _ rfl
      have k7 : Below y5.heap.size y5 (y5.alloc (.cells #[.int .i64 0, .int .i64 0, .bool false, .bool false, .int .i64 0, .slice none 0 0, .slice none 0 0, .slice none 0 0, .slice none 0 0, .int .i64 0] 42)) := below_alloc _ _
      go_upto_region 14 with ((with_reducible refine at_st 42 ?_); (refine st' 42 (.tmp 20) (.tmp 93) 10 sizeDk y5.heap.size 0 (dc (DskS.new PowS.new 40) q0) rfl (dc_one _ _) (z7.there 0 10 (by simp [z40])) rfl rfl ?_); intro y6 hw8; have X6 : Hid (Blk y6 y5.heap.size (dc (DskS.new PowS.new 40) q0) 42) := (by rw [hw8]; exact z7.setsW _ rfl); have K6 : Hid (Below y5.heap.size y5 y6) := (by rw [hw8]; exact below_sets (Nat.le_refl _) _ k7 0); clear hw8)
      clear z7 k7
      have I6 : Hid (DoI w y6 U F V d r s y5.heap.size DN DN (SeaS.new true) M q0) := by rw [HDN.out]; exact DoI.first S5.out X6.out K6.out
      obtain ⟨X, hX⟩ : ∃ X, X = y5.heap.size := ⟨_, rfl⟩
      rw [← hX] at I6 ⊢
      clear hX X6 K6 S5
      go_wp2_with fail
      refine (lImages y6 (W0.out.grow I6.out.st.bel) (by omega)).mono ?_
      rintro e y7 ⟨a7, n7, c7, rfl, hI7, hb7⟩
      have I7 : Hid (DoI w y7 U F V d r s X DN DN (SeaS.new true) M q0) := I6.out.grow hb7
      have L7 : Hid (Imgs (NX U V X) y7 a7 n7 c7 (imgL l0)) := hI7.mono fun j _ hj => nx_new I6.out j hj
      clear I6 hI7 hb7
      go_wp2_with fail
      refine (CPF.out y7 r I7.out.st.b.dk.pw.1).mono ?_
      rintro e y8 ⟨rfl, hp8, k8⟩
      have I8 : Hid (DoI w y8 U F V d r s X { DN with p := P2 } DN (SeaS.new true) M q0) := I7.out.power hp8 k8
      have L8 : Hid (Imgs (NX U V X) y8 a7 n7 c7 (imgL l0)) := L7.out.nx (F := F) (k8.mono fun j _ e => by rw [e]; exact Or.inl I7.out.st.b.dk.pw.2) I7.out.st.b.dk.sub (fun j hj => Or.inl hj)
      rw [← HDF.out] at I8
      clear I7 L7 hp8 k8
      have rgP : y8.rangeAt X 0 [.int .i64 (DN.p.steps : Int), .int .i64 DN.p.fuse, .bool DN.p.done, .bool DN.p.down] := I8.out.bx.mid 0 _ (fun j v hj => by rcases j with _ | _ | _ | _ | j <;> first | exact hj | simp at hj)
      go_wp2_with ((with_reducible refine at_ld 38 ?_); (refine ld 38 (.tmp 100) 4 size36 _ Tryz.underlying38 rfl X 0 ([.int .i64 (DN.p.steps : Int), .int .i64 DN.p.fuse, .bool DN.p.done, .bool DN.p.down]) rfl (rgP) rfl ?_))
      refine (CRF.out y8).mono ?_
      rintro e y9 ⟨rfl, hb9⟩
      have I9 : Hid (DoI w y9 U F V d r s X Df DN (SeaS.new true) M q0) := I8.out.grow hb9
      have L9 : Hid (Imgs (NX U V X) y9 a7 n7 c7 (imgL l0)) := L8.out.grow hb9
      clear I8 L8 rgP hb9
      unfold pv
      go_upto_region 17 with ((with_reducible refine at_st 38 ?_); (refine st' 38 (.tmp 104) (.tmp 103) 4 size36 X 0 (pc P2) rfl (by exact pc_one _) (I9.out.bx.there 0 4 (by simp [dc])) rfl rfl ?_); intro wr hw8; have bS : Hid (Blk wr X (dc { DN with p := P2 } q0) 42) := (by rw [hw8]; exact ((((I9.out.bx.setC 0 _).setC 1 _).setC 2 _).setC 3 _)); have kS : Hid (Kp (fun j => j = X) y9 wr) := (by rw [hw8]; exact Kp.sets y9 X _ 0); clear hw8)
      simp only [Act.put]
      have I1 : Hid (DoI w wr U F V d r s X Df Df (SeaS.new true) M q0) := I9.out.store (by rw [HDF.out]; exact ⟨I9.out.rd.safe, I9.out.rd.loose, I9.out.rd.seen, I9.out.rd.plot⟩) (by rw [HDF.out]; exact bS.out) kS.out
      have L1 : Hid (Imgs (NX U V X) wr a7 n7 c7 (imgL l0)) := L9.out.store kS.out
      clear I9 L9 bS kS
      go_cut [23, 24] from 105 to 114 (fun pv cv wx => ∃ (g : Nat) (q2 : Quad) (d2 : Du), pv = .pointer (some ⟨g, 0, none⟩) ∧ cv = .int .i64 z1 ∧ Hid (DoI w wx U F V d r s X Df D1 (SeaS.new true) M q2) ∧ Hid (DoT wx U V X g S1 d2) ∧ Hid (Imgs (NX U V X) wx a7 n7 c7 (imgL l0)))
      case first =>
        refine regionE 11 (S := Grows wr) (by kernel_rfl) (Below.refl _ wr).drew ?_
        refine takeT 0 (some 106) (dv Df q0) rfl rfl (by kernel_rfl) (fun _ _ _ h => h) (ans_row 42 (.tmp 20) _ 10 rfl (by rfl) X 0 rfl (dc Df q0) (fun u h => (I1.out.bx.below h I1.out.bx.lt).whole) Tryz.underlying42 rfl rfl sizeDk) ?_
        simp only [Act.put, List.setIfInBounds_toArray, List.set_cons_zero, List.set_cons_succ]
        refine takeT 1 (some 107) (rsV (SeaS.new true) du0) rfl rfl (by kernel_rfl) (fun _ _ _ h => h) (ans_plain (by rfl) (fun w _ => by unfold execOp; go_simp; rfl)) ?_
        simp only [Act.put, List.setIfInBounds_toArray, List.set_cons_zero, List.set_cons_succ]
        refine takeT 3 (some 109) (.int .i64 a1) rfl rfl (by kernel_rfl) (fun _ _ _ h => h) (ans_plain (by rfl) (fun w _ => rfl)) ?_
        simp only [Act.put, List.setIfInBounds_toArray, List.set_cons_zero, List.set_cons_succ]
        refine takeT 4 (some 110) (.slice a7 n7 c7) rfl rfl (by kernel_rfl) (fun _ _ _ h => h) (ans_plain (by rfl) (fun w _ => rfl)) ?_
        simp only [Act.put, List.setIfInBounds_toArray, List.set_cons_zero, List.set_cons_succ]
        refine forkE 2 10 (by kernel_rfl) (by kernel_rfl) (fun u1 hg1 hs1 => ?_) (fun u1 hg1 hs1 => ?_)
        · refine opCallW 2 (some 108) 16 #[.const (.int .u8 1)] #[5] #[.int .u8 1] rfl rfl rfl (by rfl) (by rfl) Tryz.call16 ?_
          refine (CK.out u1).mono ?_
          rintro e u2 ⟨gk, rfl, _, ok2, hb2⟩
          have s2 : Grows wr u2 := Grows.trans hs1 hb2
          have K2 : BA (NX U V X) u2 (some ⟨gk, 0, none⟩) 32 32 (keyC 1) := ok2.ba.mono fun j _ hj => nx_new (I1.out.grow hs1) j hj
          refine ⟨_, rfl, s2, ?_⟩
          simp only [Act.put, List.setIfInBounds_toArray, List.set_cons_zero, List.set_cons_succ]
          refine forkE 5 10 (by kernel_rfl) (by kernel_rfl) (fun u3 hg3 hs3 => ?_) (fun u3 hg3 hs3 => ?_)
          · have K2 := K2.below' hg3
            refine opCallW 5 (some 111) 15 #[.tmp 106, .tmp 107, .tmp 108, .tmp 109, .tmp 110] #[42, 54, 26, 3, 46] #[dv Df q0, rsV (SeaS.new true) du0, .slice (some ⟨gk, 0, none⟩) 32 32, .int .i64 a1, .slice a7 n7 c7] rfl rfl rfl (by rfl) (by rfl) Tryz.call15 ?_
            have K2 := K2.below' (Below.refl _ u3)
            refine (CRW.out u3 (NX U V X) (nx_new (I1.out.grow hs3)) (I1.out.rd.below hs3) (RS.new0 _ _ true) K2 (L1.out.grow hs3)).mono ?_
            rintro e u4 ⟨q2, d2, rfl, R4, T4, hb4⟩
            have s4 : Grows wr u4 := Grows.trans hs3 hb4
            refine ⟨_, rfl, s4, ?_⟩
            simp only [Act.put, List.setIfInBounds_toArray, List.set_cons_zero, List.set_cons_succ]
            refine takeT 6 (some 105) (.tuple #[dv D1 q2, rsV S1 d2, .int .i64 z1]) rfl rfl (by kernel_rfl) (fun _ _ _ h => h) (ans_plain (by rfl) (fun w _ => rfl)) ?_
            simp only [Act.put, List.setIfInBounds_toArray, List.set_cons_zero, List.set_cons_succ]
            refine takeT 7 (some 112) (dv D1 q2) rfl rfl (by kernel_rfl) (fun _ _ _ h => h) (ans_plain (by rfl) (fun w _ => by unfold execOp; go_simp)) ?_
            simp only [Act.put, List.setIfInBounds_toArray, List.set_cons_zero, List.set_cons_succ]
            refine takeP 8 (some 113) (rsV S1 d2) rfl rfl (by kernel_rfl) (fun _ _ _ h => h) (by rfl) (fun w => by unfold execOp; go_simp) ?_
            simp only [Act.put, List.setIfInBounds_toArray, List.set_cons_zero, List.set_cons_succ]
            refine takeP 9 (some 114) (.int .i64 z1) rfl rfl (by kernel_rfl) (fun _ _ _ h => h) (by rfl) (fun w => by unfold execOp; go_simp) ?_
            simp only [Act.put, List.setIfInBounds_toArray, List.set_cons_zero, List.set_cons_succ]
            refine oneE 10 (by kernel_rfl) (by kernel_rfl) fun u5 hg5 hs5 => ?_
            refine opMakeE (fun _ _ h h2 => Grows.trans h h2) ⟨_, rfl, rfl, rfl, fun ρ w => rfl⟩ hs5 fun g u6 hg6 hs6 Bg hgx => ?_
            have hgw : wr.heap.size ≤ g := Nat.le_trans (Below.size hs5) hgx
            have hgu : u4.heap.size ≤ g := Nat.le_trans (Below.size hg5) hgx
            have R4 := (RD.off R4 hgu).below (Grows.trans hg5 hg6)
            have T4 := (RS.off T4 hgu).grow (Grows.trans hg5 hg6)
            simp only [Act.put, List.setIfInBounds_toArray, List.set_cons_zero, List.set_cons_succ]
            refine goE (by kernel_rfl) (by kernel_rfl) (by kernel_rfl) fun u7 hg7 hs7 => ?_
            have R4 := R4.below hg7
            have T4 := T4.grow hg7
            have Bg := Bg.below hg7 Bg.lt
            have I7 := I1.out.grow hs7
            refine opStR 11 42 (.tmp 20) (.tmp 112) 10 rfl rfl rfl rfl X _ (dc D1 q2) 42 I7.bx rfl rfl (dc_one _ _) sizeDk rfl rfl fun u8 b8 k8 => ?_
            have I8 := I7.store (R4.mono fun j _ hj => hj.1) b8 k8
            have hgX : g ≠ X := by have := I1.out.bx.lt; omega
            have Bg := k8.blk Bg hgX
            have T4 := T4.kp k8 fun j hj e => hj.1.2 e
            have R4 := R4.kp k8 fun j hj e => hj.1.2 e
            refine thenE 12 (by kernel_rfl) (by kernel_rfl) fun u9 hg9 => ?_
            have Bg := Bg.below hg9 Bg.lt
            have T4 := T4.grow hg9
            have R4 := R4.below hg9
            have I9 := I8.grow hg9
            refine opStR 12 54 (.tmp 23) (.tmp 113) 6 rfl rfl rfl rfl g _ (rsC S1 d2) 54 Bg rfl rfl (rsC_one _ _) sizeRS rfl rfl fun u10 b10 k10 => ?_
            have T10 := T4.kp k10 fun j hj e => hj.2 e
            have hgo : NX U V X g := nx_new I1.out g hgw
            have I10 := I9.other k10 hgo (Nat.le_trans I1.out.st.bel.size hgw) R4
            refine takeP 13 (some 24) (.int .i64 z1) rfl rfl (by kernel_rfl) (fun _ _ _ h => h) (by rfl) (fun w => rfl) ?_
            simp only [Act.put, List.setIfInBounds_toArray, List.set_cons_zero, List.set_cons_succ]
            refine endE (by kernel_rfl) fun u11 hg11 => ?_
            have M11 : Hid (DoI w u11 U F V d r s X Df D1 (SeaS.new true) M q2) := I10.grow hg11
            have N11 : Hid (DoT u11 U V X g S1 d2) := ⟨(T10.mono fun j _ hj => hj.1).grow hg11, b10.below hg11 b10.lt, hgo⟩
            have L11 : Hid (Imgs (NX U V X) u11 a7 n7 c7 (imgL l0)) := ((((((Imgs.off L1.out hgw).grow hs7).kp k8 fun j hj e => hj.1.2 e).grow hg9).kp k10 fun j hj e => hj.2 e).mono fun j _ hj => hj.1).grow hg11
            clear R4 T4 Bg b8 k8 I7 I8 I9 I10 T10 b10 k10 hg11 hg9 hg7 hs7
            go_wp2_with fail
            go_meet
            case rel => exact ⟨g, q2, d2, rfl, rfl, M11, N11, L11⟩
          · refine opMakeE (fun _ _ h h2 => Grows.trans h h2) ⟨_, rfl, rfl, rfl, fun ρ w => rfl⟩ hs3 fun g u3b hg3b hs3b Bg hgx => ?_
            have hgw : wr.heap.size ≤ g := Nat.le_trans (Below.size hs3) hgx
            have K2 := ((K2.below' hg3).off hgx).below' hg3b
            simp only [Act.put, List.setIfInBounds_toArray, List.set_cons_zero, List.set_cons_succ]
            refine callE 5 (some 111) 15 #[.tmp 106, .tmp 107, .tmp 108, .tmp 109, .tmp 110] #[42, 54, 26, 3, 46] #[dv Df q0, rsV (SeaS.new true) du0, .slice (some ⟨gk, 0, none⟩) 32 32, .int .i64 a1, .slice a7 n7 c7] rfl rfl rfl (by rfl) (by rfl) (by kernel_rfl) (by kernel_rfl) Tryz.call15 fun u3c hg_u3c hs_u3c => ?_
            have K2 := K2.below' hg_u3c
            have Bg := Bg.below hg_u3c Bg.lt
            refine (CRW.out u3c (Off (NX U V X) g) (fun j hj => ⟨nx_new (I1.out.grow hs_u3c) j hj, by have := Bg.lt; omega⟩) ((RD.off I1.out.rd hgw).below hs_u3c) (RS.new0 _ _ true) K2 ((Imgs.off L1.out hgw).grow hs_u3c)).mono ?_
            rintro e u4 ⟨q2, d2, rfl, R4, T4, hb4⟩
            have s4 : Grows wr u4 := Grows.trans hs_u3c hb4
            have Bg := Bg.below hb4 Bg.lt
            refine ⟨_, rfl, s4, ?_⟩
            simp only [Act.put, List.setIfInBounds_toArray, List.set_cons_zero, List.set_cons_succ]
            refine takeT 6 (some 105) (.tuple #[dv D1 q2, rsV S1 d2, .int .i64 z1]) rfl rfl (by kernel_rfl) (fun _ _ _ h => h) (ans_plain (by rfl) (fun w _ => rfl)) ?_
            simp only [Act.put, List.setIfInBounds_toArray, List.set_cons_zero, List.set_cons_succ]
            refine takeT 7 (some 112) (dv D1 q2) rfl rfl (by kernel_rfl) (fun _ _ _ h => h) (ans_plain (by rfl) (fun w _ => by unfold execOp; go_simp)) ?_
            simp only [Act.put, List.setIfInBounds_toArray, List.set_cons_zero, List.set_cons_succ]
            refine takeP 8 (some 113) (rsV S1 d2) rfl rfl (by kernel_rfl) (fun _ _ _ h => h) (by rfl) (fun w => by unfold execOp; go_simp) ?_
            simp only [Act.put, List.setIfInBounds_toArray, List.set_cons_zero, List.set_cons_succ]
            refine takeP 9 (some 114) (.int .i64 z1) rfl rfl (by kernel_rfl) (fun _ _ _ h => h) (by rfl) (fun w => by unfold execOp; go_simp) ?_
            simp only [Act.put, List.setIfInBounds_toArray, List.set_cons_zero, List.set_cons_succ]
            refine goE (by kernel_rfl) (by kernel_rfl) (by kernel_rfl) fun u7 hg7 hs7 => ?_
            have R4 := R4.below hg7
            have T4 := T4.grow hg7
            have Bg := Bg.below hg7 Bg.lt
            have I7 := I1.out.grow hs7
            refine opStR 11 42 (.tmp 20) (.tmp 112) 10 rfl rfl rfl rfl X _ (dc D1 q2) 42 I7.bx rfl rfl (dc_one _ _) sizeDk rfl rfl fun u8 b8 k8 => ?_
            have I8 := I7.store (R4.mono fun j _ hj => hj.1) b8 k8
            have hgX : g ≠ X := by have := I1.out.bx.lt; omega
            have Bg := k8.blk Bg hgX
            have T4 := T4.kp k8 fun j hj e => hj.1.2 e
            have R4 := R4.kp k8 fun j hj e => hj.1.2 e
            refine thenE 12 (by kernel_rfl) (by kernel_rfl) fun u9 hg9 => ?_
            have Bg := Bg.below hg9 Bg.lt
            have T4 := T4.grow hg9
            have R4 := R4.below hg9
            have I9 := I8.grow hg9
            refine opStR 12 54 (.tmp 23) (.tmp 113) 6 rfl rfl rfl rfl g _ (rsC S1 d2) 54 Bg rfl rfl (rsC_one _ _) sizeRS rfl rfl fun u10 b10 k10 => ?_
            have T10 := T4.kp k10 fun j hj e => hj.2 e
            have hgo : NX U V X g := nx_new I1.out g hgw
            have I10 := I9.other k10 hgo (Nat.le_trans I1.out.st.bel.size hgw) R4
            refine takeP 13 (some 24) (.int .i64 z1) rfl rfl (by kernel_rfl) (fun _ _ _ h => h) (by rfl) (fun w => rfl) ?_
            simp only [Act.put, List.setIfInBounds_toArray, List.set_cons_zero, List.set_cons_succ]
            refine endE (by kernel_rfl) fun u11 hg11 => ?_
            have M11 : Hid (DoI w u11 U F V d r s X Df D1 (SeaS.new true) M q2) := I10.grow hg11
            have N11 : Hid (DoT u11 U V X g S1 d2) := ⟨(T10.mono fun j _ hj => hj.1).grow hg11, b10.below hg11 b10.lt, hgo⟩
            have L11 : Hid (Imgs (NX U V X) u11 a7 n7 c7 (imgL l0)) := ((((((Imgs.off L1.out hgw).grow hs7).kp k8 fun j hj e => hj.1.2 e).grow hg9).kp k10 fun j hj e => hj.2 e).mono fun j _ hj => hj.1).grow hg11
            clear R4 T4 Bg b8 k8 I7 I8 I9 I10 T10 b10 k10 hg11 hg9 hg7 hs7
            go_wp2_with fail
            go_meet
            case rel => exact ⟨g, q2, d2, rfl, rfl, M11, N11, L11⟩
        · refine opMakeE (fun _ _ h h2 => Grows.trans h h2) ⟨_, rfl, rfl, rfl, fun ρ w => rfl⟩ hs1 fun g u1b hg1b hs1b Bg hgx => ?_
          have hgw : wr.heap.size ≤ g := Nat.le_trans (Below.size hs1) hgx
          simp only [Act.put, List.setIfInBounds_toArray, List.set_cons_zero, List.set_cons_succ]
          refine callE 2 (some 108) 16 #[.const (.int .u8 1)] #[5] #[.int .u8 1] rfl rfl rfl (by rfl) (by rfl) (by kernel_rfl) (by kernel_rfl) Tryz.call16 fun u1c hg_u1c hs_u1c => ?_
          have Bg := Bg.below hg_u1c Bg.lt
          refine (CK.out u1c).mono ?_
          rintro e u2 ⟨gk, rfl, _, ok2, hb2⟩
          have s2 : Grows wr u2 := Grows.trans hs_u1c hb2
          have K2 : BA (Off (NX U V X) g) u2 (some ⟨gk, 0, none⟩) 32 32 (keyC 1) := ok2.ba.mono fun j _ hj => ⟨nx_new (I1.out.grow hs_u1c) j hj, by have := Bg.lt; omega⟩
          have Bg := Bg.below hb2 Bg.lt
          refine ⟨_, rfl, s2, ?_⟩
          simp only [Act.put, List.setIfInBounds_toArray, List.set_cons_zero, List.set_cons_succ]
          refine callE 5 (some 111) 15 #[.tmp 106, .tmp 107, .tmp 108, .tmp 109, .tmp 110] #[42, 54, 26, 3, 46] #[dv Df q0, rsV (SeaS.new true) du0, .slice (some ⟨gk, 0, none⟩) 32 32, .int .i64 a1, .slice a7 n7 c7] rfl rfl rfl (by rfl) (by rfl) (by kernel_rfl) (by kernel_rfl) Tryz.call15 fun u3c hg_u3c hs_u3c => ?_
          have K2 := K2.below' hg_u3c
          have Bg := Bg.below hg_u3c Bg.lt
          refine (CRW.out u3c (Off (NX U V X) g) (fun j hj => ⟨nx_new (I1.out.grow hs_u3c) j hj, by have := Bg.lt; omega⟩) ((RD.off I1.out.rd hgw).below hs_u3c) (RS.new0 _ _ true) K2 ((Imgs.off L1.out hgw).grow hs_u3c)).mono ?_
          rintro e u4 ⟨q2, d2, rfl, R4, T4, hb4⟩
          have s4 : Grows wr u4 := Grows.trans hs_u3c hb4
          have Bg := Bg.below hb4 Bg.lt
          refine ⟨_, rfl, s4, ?_⟩
          simp only [Act.put, List.setIfInBounds_toArray, List.set_cons_zero, List.set_cons_succ]
          refine takeT 6 (some 105) (.tuple #[dv D1 q2, rsV S1 d2, .int .i64 z1]) rfl rfl (by kernel_rfl) (fun _ _ _ h => h) (ans_plain (by rfl) (fun w _ => rfl)) ?_
          simp only [Act.put, List.setIfInBounds_toArray, List.set_cons_zero, List.set_cons_succ]
          refine takeT 7 (some 112) (dv D1 q2) rfl rfl (by kernel_rfl) (fun _ _ _ h => h) (ans_plain (by rfl) (fun w _ => by unfold execOp; go_simp)) ?_
          simp only [Act.put, List.setIfInBounds_toArray, List.set_cons_zero, List.set_cons_succ]
          refine takeP 8 (some 113) (rsV S1 d2) rfl rfl (by kernel_rfl) (fun _ _ _ h => h) (by rfl) (fun w => by unfold execOp; go_simp) ?_
          simp only [Act.put, List.setIfInBounds_toArray, List.set_cons_zero, List.set_cons_succ]
          refine takeP 9 (some 114) (.int .i64 z1) rfl rfl (by kernel_rfl) (fun _ _ _ h => h) (by rfl) (fun w => by unfold execOp; go_simp) ?_
          simp only [Act.put, List.setIfInBounds_toArray, List.set_cons_zero, List.set_cons_succ]
          refine goE (by kernel_rfl) (by kernel_rfl) (by kernel_rfl) fun u7 hg7 hs7 => ?_
          have R4 := R4.below hg7
          have T4 := T4.grow hg7
          have Bg := Bg.below hg7 Bg.lt
          have I7 := I1.out.grow hs7
          refine opStR 11 42 (.tmp 20) (.tmp 112) 10 rfl rfl rfl rfl X _ (dc D1 q2) 42 I7.bx rfl rfl (dc_one _ _) sizeDk rfl rfl fun u8 b8 k8 => ?_
          have I8 := I7.store (R4.mono fun j _ hj => hj.1) b8 k8
          have hgX : g ≠ X := by have := I1.out.bx.lt; omega
          have Bg := k8.blk Bg hgX
          have T4 := T4.kp k8 fun j hj e => hj.1.2 e
          have R4 := R4.kp k8 fun j hj e => hj.1.2 e
          refine thenE 12 (by kernel_rfl) (by kernel_rfl) fun u9 hg9 => ?_
          have Bg := Bg.below hg9 Bg.lt
          have T4 := T4.grow hg9
          have R4 := R4.below hg9
          have I9 := I8.grow hg9
          refine opStR 12 54 (.tmp 23) (.tmp 113) 6 rfl rfl rfl rfl g _ (rsC S1 d2) 54 Bg rfl rfl (rsC_one _ _) sizeRS rfl rfl fun u10 b10 k10 => ?_
          have T10 := T4.kp k10 fun j hj e => hj.2 e
          have hgo : NX U V X g := nx_new I1.out g hgw
          have I10 := I9.other k10 hgo (Nat.le_trans I1.out.st.bel.size hgw) R4
          refine takeP 13 (some 24) (.int .i64 z1) rfl rfl (by kernel_rfl) (fun _ _ _ h => h) (by rfl) (fun w => rfl) ?_
          simp only [Act.put, List.setIfInBounds_toArray, List.set_cons_zero, List.set_cons_succ]
          refine endE (by kernel_rfl) fun u11 hg11 => ?_
          have M11 : Hid (DoI w u11 U F V d r s X Df D1 (SeaS.new true) M q2) := I10.grow hg11
          have N11 : Hid (DoT u11 U V X g S1 d2) := ⟨(T10.mono fun j _ hj => hj.1).grow hg11, b10.below hg11 b10.lt, hgo⟩
          have L11 : Hid (Imgs (NX U V X) u11 a7 n7 c7 (imgL l0)) := ((((((Imgs.off L1.out hgw).grow hs7).kp k8 fun j hj e => hj.1.2 e).grow hg9).kp k10 fun j hj e => hj.2 e).mono fun j _ hj => hj.1).grow hg11
          clear R4 T4 Bg b8 k8 I7 I8 I9 I10 T10 b10 k10 hg11 hg9 hg7 hs7
          go_wp2_with fail
          go_meet
          case rel => exact ⟨g, q2, d2, rfl, rfl, M11, N11, L11⟩
      case rest =>
        obtain ⟨g, q, d2, rfl, rfl, I2, N2, L2⟩ := hcut
        clear I1 L1 CRW CPF CRF
        go_wp2_with fail
        refine (CK.out wc).mono ?_
        rintro e x1 ⟨gk, rfl, _, ok1, hb1⟩
        have I3 : Hid (DoI w x1 U F V d r s X Df D1 (SeaS.new true) M q) := I2.out.grow hb1
        have N3 : Hid (DoT x1 U V X g S1 d2) := N2.out.grow hb1
        have L3 : Hid (Imgs (NX U V X) x1 a7 n7 c7 (imgL l0)) := L2.out.grow hb1
        have K3 : Hid (BA (fun j => ¬ V j) x1 (some ⟨gk, 0, none⟩) 32 32 (keyC 1)) := ok1.ba.mono fun j _ hj => (nx_new I2.out j hj).1.2
        clear I2 N2 L2 ok1 hb1
        go_wp2_with fail
        refine (CW.out x1 U F V d r s M _ _ _ _ _ (NX U V X) I3.out.st.b K3.out L3.out (fun j hj => hj.1)).mono ?_
        rintro e x2 ⟨U2, F2, rfl, hB2, nU2, nF2, hk2⟩
        have I4 : Hid (DoI w x2 U2 F2 V d r s X D1 D1 S1 M q) := I3.out.prog hB2 nU2 hk2
        have N4 : Hid (DoT x2 U2 V X g S1 d2) := N3.out.prog hk2 I3.out.st.b.dk.sub nU2
        clear I3 N3 L3 K3 hB2 nU2 nF2 hk2 CW
        go_wp2_with fail
        refine (CC.out x2 _ _ d r I4.out.st.b.dk (I4.out.st.bo W3.out)).mono ?_
        rintro e x3 ⟨rfl, U3, F3, hd3, nU3, nF3, hk3⟩
        have I5 : Hid (DoI w x3 U3 F3 V d r s X DC D1 S1 M q) := I4.out.disk hd3 nU3 hk3
        have N5 : Hid (DoT x3 U3 V X g S1 d2) := N4.out.prog (F := F2) (hk3.mono fun j _ hj => Or.inl hj) I4.out.st.b.dk.sub nU3
        clear I4 N4 hd3 nU3 nF3 hk3 CC
        go_wp2_with fail
        refine (CPB.out x3 r I5.out.st.b.dk.pw.1).mono ?_
        rintro e x4 ⟨rfl, hp4, kp4⟩
        have I6 : Hid (DoI w x4 U3 F3 V d r s X { DC with p := P3 } D1 S1 M q) := I5.out.power hp4 kp4
        have N6 : Hid (DoT x4 U3 V X g S1 d2) := N5.out.prog (F := F3) (kp4.mono fun j _ e => by rw [e]; exact Or.inl I5.out.st.b.dk.pw.2) I5.out.st.b.dk.sub (fun j hj => Or.inl hj)
        rw [← HD3.out] at I6
        clear I5 N5 hp4 kp4 CPB
        go_wp2_with ((with_reducible refine at_ld 42 ?_); (refine ld 42 (.tmp 20) 10 sizeDk _ Tryz.underlying42 rfl X 0 (dc D1 q) rfl (I6.out.bx.whole) rfl ?_))
        refine (CRC.out x4 (NX U3 V X) q I6.out.rd (nx_new I6.out) (I6.out.st.bo W3.out).1).mono ?_
        rintro e x5 ⟨q3, rfl, R5, hb5⟩
        have I7 : Hid (DoI w x5 U3 F3 V d r s X D3 D1 S1 M q) := I6.out.grow hb5
        have N7 : Hid (DoT x5 U3 V X g S1 d2) := N6.out.grow hb5
        have RX : Hid (RD (NX U3 V X) x5 DC q3) := R5
        clear I6 N6 R5 hb5 CRC
        go_upto_region 23 with ((with_reducible refine at_st 42 ?_); (refine st' 42 (.tmp 20) (.tmp 130) 10 sizeDk X 0 (dc DC q3) rfl (dc_one _ _) (I7.out.bx.there 0 10 (by simp [dc])) rfl rfl ?_); intro x6 hw8; have bS : Hid (Blk x6 X (dc DC q3) 42) := (by rw [hw8]; exact I7.out.bx.setsW _ rfl); have kS : Hid (Kp (fun j => j = X) x5 x6) := (by rw [hw8]; exact Kp.sets x5 X _ 0); clear hw8)
        have I8 : Hid (DoI w x6 U3 F3 V d r s X D3 DC S1 M q3) := I7.out.store RX.out bS.out kS.out
        have N8 : Hid (DoT x6 U3 V X g S1 d2) := N7.out.store kS.out
        clear I7 N7 RX bS kS
        have rgP : x6.rangeAt X 0 [.int .i64 (DC.p.steps : Int), .int .i64 DC.p.fuse, .bool DC.p.done, .bool DC.p.down] := I8.out.bx.mid 0 _ (fun j v hj => by rcases j with _ | _ | _ | _ | j <;> first | exact hj | simp at hj)
        go_wp2_with ((with_reducible refine at_ld 38 ?_); (refine ld 38 (.tmp 131) 4 size36 _ Tryz.underlying38 rfl X 0 ([.int .i64 (DC.p.steps : Int), .int .i64 DC.p.fuse, .bool DC.p.done, .bool DC.p.down]) rfl (rgP) rfl ?_))
        refine (CRB.out x6).mono ?_
        rintro e x7 ⟨rfl, hb7⟩
        have I9 : Hid (DoI w x7 U3 F3 V d r s X D3 DC S1 M q3) := I8.out.grow hb7
        have N9 : Hid (DoT x7 U3 V X g S1 d2) := N8.out.grow hb7
        clear I8 N8 rgP hb7 CRB
        unfold pv
        go_upto_region 24 with ((with_reducible refine at_st 38 ?_); (refine st' 38 (.tmp 134) (.tmp 133) 4 size36 X 0 (pc P3) rfl (by exact pc_one _) (I9.out.bx.there 0 4 (by simp [dc])) rfl rfl ?_); intro x8 hw8; have bS : Hid (Blk x8 X (dc { DC with p := P3 } q3) 42) := (by rw [hw8]; exact ((((I9.out.bx.setC 0 _).setC 1 _).setC 2 _).setC 3 _)); have kS : Hid (Kp (fun j => j = X) x7 x8) := (by rw [hw8]; exact Kp.sets x7 X _ 0); clear hw8)
        have E0 : D3.pokeR (l4.take 0) = D3 := by rw [List.take_zero]; rfl
        have rd8 : RD (NX U3 V X) x7 D3 q3 := by rw [HD3.out]; exact ⟨I9.out.rd.safe, I9.out.rd.loose, I9.out.rd.seen, I9.out.rd.plot⟩
        have bx8 : Blk x8 X (dc D3 q3) 42 := by rw [HD3.out]; exact bS.out
        have I10 : Hid (DoI w x8 U3 F3 V d r s X (D3.pokeR (l4.take 0)) (D3.pokeR (l4.take 0)) S1 M q3) := by rw [E0]; exact I9.out.store rd8 bx8 kS.out
        have N10 : Hid (DoT x8 U3 V X g S1 d2) := N9.out.store kS.out
        clear I9 N9 bS kS rd8 bx8 E0
        go_wp2_with fail
        go_loopw [25] (fun i wr => ∃ (k : Nat) (q : Quad) (U1 F1 : Nat → Prop), k ≤ len4 ∧ i = .int .i64 (k : Int) ∧ Hid (DoI w wr U1 F1 V d r s X (D3.pokeR (l4.take k)) (D3.pokeR (l4.take k)) S1 M q) ∧ Hid (DoT wr U1 V X g S1 d2)) (fun i _ => len4 - (intOf i).toNat)
        case atStart => exact ⟨0, q3, U3, F3, Nat.zero_le _, rfl, I10, N10⟩
        case round =>
          obtain ⟨k, q, U1, F1, hk4, rfl, I0, N0⟩ := hrel
          clear I10 N10
          by_cases hlt4 : k < len4
          · have j2 : (k : Int) < (len4 : Int) := by omega
            have j3 : (0 : Int) ≤ (k : Int) := by omega
            obtain ⟨x, hx⟩ : ∃ x, l4[k]? = some x := ⟨_, List.getElem?_eq_getElem (by rw [HL4.out]; exact hlt4)⟩
            obtain ⟨b, o, p, m, qq, ha, hlb0, hrg, hBA, i1, i2, i3, i4⟩ := W4.out.at (Below.refl _ w) hx
            obtain ⟨E, hE⟩ : ∃ E, E = D3.pokeR (l4.take k) := ⟨_, rfl⟩
            rw [← hE] at I0
            have HST : Hid (D3.pokeR (l4.take (k + 1)) = E.poke x) := by show _ = _; rw [pokeR_step D3 hx, ← hE]
            have HFE : Hid (E.fit 88) := by
              rw [hE]
              refine (pokeR_fit F3F.out).a_mono ?_
              have := List.length_take_le k l4
              omega
            have HI64 : Hid (i64 x.on ∧ i64 x.at_ ∧ i64 x.kind ∧ i64 x.num) := ⟨i1, i2, i3, i4⟩
            have hm6 : m ≤ 600 := by rw [← hBA.1.len]; exact HG.out x (List.mem_of_getElem? hx)
            have PR0 : Hid (∀ u, Below w.heap.size w u → u.rangeAt b (o + k * 5) [.int .i64 x.on, .int .i64 x.at_, .int .i64 x.kind, .slice p m qq, .int .i64 x.num]) := fun u hb j v hj => by
              rw [World.cell?_of_block (w := w) (hb.block b hlb0)]
              exact hrg j v hj
            have PB0 : Hid (∀ u, Below w.heap.size w u → BA (fun j => j < w.heap.size) u p m qq x.bytes) := fun u hb => hBA.below' hb
            subst ha
            clear hE hx hrg hBA i1 i2 i3 i4 hlb0
            have hrw := PR0.out wr I0.out.st.bel
            go_wp2_with ((with_reducible refine at_ld 28 ?_); (refine ld 28 (.tmp 144) 5 size28 _ Tryz.underlying28 rfl b (o + k * 5) ([.int .i64 x.on, .int .i64 x.at_, .int .i64 x.kind, .slice p m qq, .int .i64 x.num]) rfl (hrw) rfl ?_))
            refine (oDPoke wr I0.out.st.b.dk HFE.out (by omega) x ((PB0.out wr I0.out.st.bel).mono fun j _ hj hF => by have := I0.out.st.baseU j (I0.out.st.b.dk.sub j hF); omega) (by omega) HI64.out).mono ?_
            rintro e y1 ⟨rfl, U2, F2, hd2, nU2, nF2, hk2⟩
            have I6 : Hid (DoI w y1 U2 F2 V d r s X (E.poke x) E S1 M q) := I0.out.disk hd2 nU2 hk2
            have N6 : Hid (DoT y1 U2 V X g S1 d2) := N0.out.prog (F := F1) (hk2.mono fun j _ hj => Or.inl hj) I0.out.st.b.dk.sub nU2
            have PR : Hid (∀ u, Grows y1 u → u.rangeAt b (o + k * 5) [.int .i64 x.on, .int .i64 x.at_, .int .i64 x.kind, .slice p m qq, .int .i64 x.num]) := fun u h => PR0.out u (I6.out.grow h).st.bel
            have PB : Hid (∀ u, Grows y1 u → BA (fun j => j < w.heap.size) u p m qq x.bytes) := fun u h => PB0.out u (I6.out.grow h).st.bel
            clear I0 N0 hrw hd2 nU2 nF2 hk2 PR0 PB0
            go_upto_region 28 with fail
            refine regionE 6 (S := Grows y1) (by kernel_rfl) (Below.refl _ y1).drew ?_
            refine takeT 0 (some 147) (dv E q) rfl rfl (by kernel_rfl) (fun _ _ _ h => h) (ans_row 42 (.tmp 20) _ 10 rfl (by rfl) X 0 rfl (dc E q) (fun u h => (I6.out.bx.below h I6.out.bx.lt).whole) Tryz.underlying42 rfl rfl sizeDk) ?_
            simp only [Act.put, List.setIfInBounds_toArray, List.set_cons_zero, List.set_cons_succ]
            refine takeT 1 (some 148) (.slice (some ⟨b, o, none⟩) len4 cap4) rfl rfl (by kernel_rfl) (fun _ _ _ h => h) (ans_plain (by rfl) (fun w _ => rfl)) ?_
            simp only [Act.put, List.setIfInBounds_toArray, List.set_cons_zero, List.set_cons_succ]
            refine takeT 2 (some 149) (.int .i64 (k : Int)) rfl rfl (by kernel_rfl) (fun _ _ _ h => h) (ans_plain (by rfl) (fun w _ => rfl)) ?_
            simp only [Act.put, List.setIfInBounds_toArray, List.set_cons_zero, List.set_cons_succ]
            refine takeT 3 (some 150) (.pointer (some ⟨b, o + k * 5, none⟩)) rfl rfl (by kernel_rfl) (fun _ _ _ h => h) (ans_plain (by rfl) (fun w _ => by unfold execOp; go_simp)) ?_
            simp only [Act.put, List.setIfInBounds_toArray, List.set_cons_zero, List.set_cons_succ]
            refine takeT 4 (some 151) (xv x p m qq) rfl rfl (by kernel_rfl) (fun _ _ _ h => h) (ans_row 28 (.tmp 150) _ 5 rfl (by rfl) b (o + k * 5) rfl [.int .i64 x.on, .int .i64 x.at_, .int .i64 x.kind, .slice p m qq, .int .i64 x.num] (fun u h => PR.out u h) Tryz.underlying28 rfl rfl size28) ?_
            simp only [Act.put, List.setIfInBounds_toArray, List.set_cons_zero, List.set_cons_succ]
            refine callE 5 (some 152) 23 #[.tmp 147, .tmp 151] #[42, 28] #[dv E q, xv x p m qq] rfl rfl rfl (by rfl) (by rfl) (by kernel_rfl) (by kernel_rfl) Tryz.call23 fun u1 hg_u1 hs_u1 => ?_
            refine (rPoke u1 (I6.out.rd.below hs_u1) (nx_new (I6.out.grow hs_u1)) x ((PB.out u1 hs_u1).1) HI64.out.2.1 HI64.out.2.2.2 (by have := HFE.out.safe; omega) (by have := HFE.out.loose; omega)).mono ?_
            rintro e u2 ⟨q2, rfl, R2, hb2⟩
            have s2 : Grows y1 u2 := Grows.trans hs_u1 hb2
            refine ⟨_, rfl, s2, ?_⟩
            simp only [Act.put, List.setIfInBounds_toArray, List.set_cons_zero, List.set_cons_succ]
            refine goE (by kernel_rfl) (by kernel_rfl) (by kernel_rfl) fun u3 hg3 hs3 => ?_
            have R3 := R2.below hg3
            have I3 := I6.out.grow hs3
            refine opStR 6 42 (.tmp 20) (.tmp 152) 10 rfl rfl rfl rfl X _ (dc (E.poke x) q2) 42 I3.bx rfl rfl (dc_one _ _) sizeDk rfl rfl fun u4 b4 k4 => ?_
            have I4 := I3.store R3 b4 k4
            refine endE (by kernel_rfl) fun u5 hg5 => ?_
            have I5 : Hid (DoI w u5 U2 F2 V d r s X (E.poke x) (E.poke x) S1 M q2) := I4.grow hg5
            have N5 : Hid (DoT u5 U2 V X g S1 d2) := ((N6.out.grow hs3).store k4).grow hg5
            clear I4 I3 R3 R2 b4 k4 hg5 hs3 hg3 s2 hb2 hs_u1 hg_u1
            clear I6 N6 PR PB
            go_wp2_with fail
            go_roundw
            case rel => exact ⟨k + 1, q2, U2, F2, by omega, by go_num, by rw [HST.out]; exact I5, N5⟩
            case measure => simp [intOf]; omega
          · have j2 : ¬ (k : Int) < (len4 : Int) := by omega
            rw [List.take_of_length_le (by rw [HL4.out]; omega), HPO.out] at I0
            have CRR : Hid (∀ (u : World) (A : Nat → Prop) {q : Quad} {d2 : Du} {gk : Nat}, (∀ j, u.heap.size ≤ j → A j) → RD A u D4 q → RS A u S1 d2 → BA A u (some ⟨gk, 0, none⟩) 32 32 (keyC 1) → Calls Tryz.prog 25 #[dv D4 q, rsV S1 d2, .slice (some ⟨gk, 0, none⟩) 32 32, .int .i64 a5, .int .i64 a6] u fun e w' => ∃ q' a m c, e = .returned (.tuple #[dv D5 q', .slice a m c, .int .i64 z2]) ∧ RD A w' D5 q' ∧ Imgs A w' a m c LL ∧ Below u.heap.size u w') := fun u A _ _ _ hA h hs hk => by
              have h9 := rRead16 u hA h hs I0.out.st.b.ok HPL.out.f4 (by omega) HPL.out.bk.1 (Dk.read_len' I0.out.st.b.dk HPL.out.f4 (by omega)) hk a5 a6 ⟨b5l, by omega⟩ ⟨b6l, b6h⟩
              rw [HPL.out.re] at h9
              exact h9
            have HLL : Hid (LL.length ≤ 23) := HPL.out.ll
            go_wp2_with fail
            refine (CK.out wr).mono ?_
            rintro e y2 ⟨gk, rfl, _, ok2, hb2⟩
            have I8 : Hid (DoI w y2 U1 F1 V d r s X D4 D4 S1 M q) := I0.out.grow hb2
            have N8 : Hid (DoT y2 U1 V X g S1 d2) := N0.out.grow hb2
            have K8 : Hid (BA (Out U1 V) y2 (some ⟨gk, 0, none⟩) 32 32 (keyC 1)) := ok2.ba.mono fun j _ hj => (nx_new I0.out j hj).1
            clear I0 N0 ok2 hb2
            go_wp2_with fail
            refine (CRD.out y2 U1 F1 V d r s M _ _ I8.out.st.b K8.out).mono ?_
            rintro e y4 ⟨ma, mn, mc, U9, F9, rfl, hB9, nU9, nF9, hk9, hI9⟩
            have I9 : Hid (DoI w y4 U9 F9 V d r s X D5 D4 S1 M q) := I8.out.prog hB9 nU9 hk9
            have N9 : Hid (DoT y4 U9 V X g S1 d2) := N8.out.prog hk9 I8.out.st.b.dk.sub nU9
            have M9 : Hid (Imgs (NX U9 V X) y4 ma mn mc LL) := hI9.mono fun j _ hj => ⟨⟨hj.1, (nx_new I8.out j hj.2).1.2⟩, (nx_new I8.out j hj.2).2⟩
            clear I8 N8 K8 hB9 nU9 nF9 hk9 hI9 CRD
            dsimp only
            go_upto_region 30 with fail
            refine regionE 10 (S := Grows y4) (by kernel_rfl) (Below.refl _ y4).drew ?_
            refine takeT 0 (some 163) (dv D4 q) rfl rfl (by kernel_rfl) (fun _ _ _ h => h) (ans_row 42 (.tmp 20) _ 10 rfl (by rfl) X 0 rfl (dc D4 q) (fun u h => (I9.out.bx.below h I9.out.bx.lt).whole) Tryz.underlying42 rfl rfl sizeDk) ?_
            simp only [Act.put, List.setIfInBounds_toArray, List.set_cons_zero, List.set_cons_succ]
            refine takeT 1 (some 164) (rsV S1 d2) rfl rfl (by kernel_rfl) (fun _ _ _ h => h) (ans_row 54 (.tmp 23) _ 6 rfl (by rfl) g 0 rfl (rsC S1 d2) (fun u h => (N9.out.bt.below h N9.out.bt.lt).whole) Tryz.underlying54 rfl rfl sizeRS) ?_
            simp only [Act.put, List.setIfInBounds_toArray, List.set_cons_zero, List.set_cons_succ]
            refine takeT 3 (some 166) (.int .i64 a5) rfl rfl (by kernel_rfl) (fun _ _ _ h => h) (ans_plain (by rfl) (fun w _ => rfl)) ?_
            simp only [Act.put, List.setIfInBounds_toArray, List.set_cons_zero, List.set_cons_succ]
            refine takeT 4 (some 167) (.int .i64 a6) rfl rfl (by kernel_rfl) (fun _ _ _ h => h) (ans_plain (by rfl) (fun w _ => rfl)) ?_
            simp only [Act.put, List.setIfInBounds_toArray, List.set_cons_zero, List.set_cons_succ]
            refine callE 2 (some 165) 16 #[.const (.int .u8 1)] #[5] #[.int .u8 1] rfl rfl rfl (by rfl) (by rfl) (by kernel_rfl) (by kernel_rfl) Tryz.call16 fun u1 hg_u1 hs_u1 => ?_
            refine (CK.out u1).mono ?_
            rintro e u2 ⟨gk, rfl, _, ok2, hb2⟩
            have s2 : Grows y4 u2 := Grows.trans hs_u1 hb2
            have K2 : BA (NX U9 V X) u2 (some ⟨gk, 0, none⟩) 32 32 (keyC 1) := ok2.ba.mono fun j _ hj => nx_new (I9.out.grow hs_u1) j hj
            refine ⟨_, rfl, s2, ?_⟩
            simp only [Act.put, List.setIfInBounds_toArray, List.set_cons_zero, List.set_cons_succ]
            refine callE 5 (some 168) 25 #[.tmp 163, .tmp 164, .tmp 165, .tmp 166, .tmp 167] #[42, 54, 26, 3, 3] #[dv D4 q, rsV S1 d2, .slice (some ⟨gk, 0, none⟩) 32 32, .int .i64 a5, .int .i64 a6] rfl rfl rfl (by rfl) (by rfl) (by kernel_rfl) (by kernel_rfl) Tryz.call25 fun u3 hg_u3 hs_u3 => ?_
            have K3 := K2.below' hg_u3
            refine (CRR.out u3 (NX U9 V X) (nx_new (I9.out.grow hs_u3)) (I9.out.rd.below hs_u3) (N9.out.rs.grow hs_u3) K3).mono ?_
            rintro e u4 ⟨q4, ra, rn, rc, rfl, R4, J4, hb4⟩
            have s4 : Grows y4 u4 := Grows.trans hs_u3 hb4
            refine ⟨_, rfl, s4, ?_⟩
            simp only [Act.put, List.setIfInBounds_toArray, List.set_cons_zero, List.set_cons_succ]
            refine takeT 6 (some 162) (.tuple #[dv D5 q4, .slice ra rn rc, .int .i64 z2]) rfl rfl (by kernel_rfl) (fun _ _ _ h => h) (ans_plain (by rfl) (fun w _ => rfl)) ?_
            simp only [Act.put, List.setIfInBounds_toArray, List.set_cons_zero, List.set_cons_succ]
            refine takeT 7 (some 169) (dv D5 q4) rfl rfl (by kernel_rfl) (fun _ _ _ h => h) (ans_plain (by rfl) (fun w _ => by unfold execOp; go_simp)) ?_
            simp only [Act.put, List.setIfInBounds_toArray, List.set_cons_zero, List.set_cons_succ]
            refine takeP 8 (some 170) (.slice ra rn rc) rfl rfl (by kernel_rfl) (fun _ _ _ h => h) (by rfl) (fun w => by unfold execOp; go_simp) ?_
            simp only [Act.put, List.setIfInBounds_toArray, List.set_cons_zero, List.set_cons_succ]
            refine takeP 9 (some 171) (.int .i64 z2) rfl rfl (by kernel_rfl) (fun _ _ _ h => h) (by rfl) (fun w => by unfold execOp; go_simp) ?_
            simp only [Act.put, List.setIfInBounds_toArray, List.set_cons_zero, List.set_cons_succ]
            refine goE (by kernel_rfl) (by kernel_rfl) (by kernel_rfl) fun u5 hg5 hs5 => ?_
            have R5 := R4.below hg5
            have J5 := J4.grow hg5
            have I5 := I9.out.grow hs5
            refine opStR 10 42 (.tmp 20) (.tmp 169) 10 rfl rfl rfl rfl X _ (dc D5 q4) 42 I5.bx rfl rfl (dc_one _ _) sizeDk rfl rfl fun u6 b6 k6 => ?_
            have I6 := I5.store R5 b6 k6
            have J6 := J5.store k6
            refine takeP 11 (some 28) (.slice ra rn rc) rfl rfl (by kernel_rfl) (fun _ _ _ h => h) (by rfl) (fun w => rfl) ?_
            simp only [Act.put, List.setIfInBounds_toArray, List.set_cons_zero, List.set_cons_succ]
            refine takeP 12 (some 29) (.int .i64 z2) rfl rfl (by kernel_rfl) (fun _ _ _ h => h) (by rfl) (fun w => rfl) ?_
            simp only [Act.put, List.setIfInBounds_toArray, List.set_cons_zero, List.set_cons_succ]
            refine endE (by kernel_rfl) fun y5 hg7 => ?_
            have I10 : Hid (DoI w y5 U9 F9 V d r s X D5 D5 S1 M q4) := I6.grow hg7
            have J10 : Hid (Imgs (NX U9 V X) y5 ra rn rc LL) := J6.grow hg7
            have M10 : Hid (Imgs (NX U9 V X) y5 ma mn mc LL) := ((M9.out.grow hs5).store k6).grow hg7
            clear I6 J6 I5 J5 R5 R4 J4 K2 K3 b6 k6 hg7 hs5 hg5 s4 hb4 hs_u3 hg_u3 s2 hb2 ok2 hs_u1 hg_u1
            clear I9 N9 M9 CRR
            have lm : mn ≤ 1000000 := by rw [← Sl.len M10.out]; have := HLL.out; omega
            have lr : rn ≤ 1000000 := by rw [← Sl.len J10.out]; have := HLL.out; omega
            go_wp2_with fail
            refine (rSame16 y5 M10.out J10.out lm lr).mono ?_
            rintro e y6 ⟨rfl, hb6⟩
            rw [decide_eq_true (rfl : LL = LL)]
            have I11 : Hid (DoI w y6 U9 F9 V d r s X D5 D5 S1 M q4) := I10.out.grow hb6
            have J11 : Hid (Imgs (NX U9 V X) y6 ra rn rc LL) := J10.out.grow hb6
            have M11 : Hid (Imgs (NX U9 V X) y6 ma mn mc LL) := M10.out.grow hb6
            clear I10 J10 M10 hb6
            go_wp2_with fail
            refine (CA.out y6 U9 F9 d r (NX U9 V X) _ _ _ I11.out.st.b.dk M11.out (fun j hj hF => hj.1.1 (I11.out.st.b.dk.sub j hF))).mono ?_
            rintro e y7 ⟨rfl, U11, F11, hd7, nU7, nF7, hk7⟩
            have I12 : Hid (DoI w y7 U11 F11 V d r s X D6 D5 S1 M q4) := I11.out.disk hd7 nU7 hk7
            have J12 : Hid (Imgs (NX U11 V X) y7 ra rn rc LL) := J11.out.nx (F := F9) (hk7.mono fun j _ hj => Or.inl hj) I11.out.st.b.dk.sub nU7
            clear I11 J11 M11 hd7 nU7 nF7 hk7 CA
            go_wp2_with ((with_reducible refine at_ld 42 ?_); (refine ld 42 (.tmp 20) 10 sizeDk _ Tryz.underlying42 rfl X 0 (dc D5 q4) rfl (I12.out.bx.whole) rfl ?_))
            refine (CRA.out y7 (NX U11 V X) q4 _ _ _ (nx_new I12.out) I12.out.rd J12.out).mono ?_
            rintro e y8 ⟨q, rfl, R8, hb8⟩
            have I13 : Hid (DoI w y8 U11 F11 V d r s X D6 D5 S1 M q4) := I12.out.grow hb8
            have RX : Hid (RD (NX U11 V X) y8 D6 q) := R8
            clear I12 J12 R8 hb8 CRA
            go_upto_region 35 with ((with_reducible refine at_st 42 ?_); (refine st' 42 (.tmp 20) (.tmp 188) 10 sizeDk X 0 (dc D6 q) rfl (dc_one _ _) (I13.out.bx.there 0 10 (by simp [dc])) rfl rfl ?_); intro y9 hw8; have bS : Hid (Blk y9 X (dc D6 q) 42) := (by rw [hw8]; exact I13.out.bx.setsW _ rfl); have kS : Hid (Kp (fun j => j = X) y8 y9) := (by rw [hw8]; exact Kp.sets y8 X _ 0); clear hw8)
            have I14 : Hid (DoI w y9 U11 F11 V d r s X D6 D6 S1 M q) := I13.out.store RX.out bS.out kS.out
            clear I13 RX bS kS
            go_wp2_with fail
            go_loopw [32] (fun i wr => ∃ k : Nat, k ≤ 40 ∧ i = .int .i64 (k : Int) ∧ Hid (DoI w wr U11 F11 V d r s X D6 D6 S1 M q)) (fun i _ => 40 - (intOf i).toNat)
            case atStart => exact ⟨0, by omega, rfl, I14⟩
            case round =>
              obtain ⟨k, hk40, rfl, I12⟩ := hrel
              clear I14
              by_cases hlt5 : k < 40
              · have j5 : (k : Int) < 40 := by omega
                have j6 : (0 : Int) ≤ (k : Int) := by omega
                go_wp2_with fail
                refine regionG (S := Grows wr) (by kernel_rfl) (Below.refl _ wr).drew ?_
                refine takeG 0 (some 197) (.pointer (some ⟨d, 0, none⟩)) rfl rfl (by kernel_rfl) (by kernel_rfl) (by kernel_rfl) (fun _ _ _ h => h) (ans_plain (by rfl) (fun w _ => rfl)) ?_
                simp only [Act.put, List.setIfInBounds_toArray, List.set_cons_zero, List.set_cons_succ]
                refine takeG 1 (some 198) (.int .i64 (k : Int)) rfl rfl (by kernel_rfl) (by kernel_rfl) (by kernel_rfl) (fun _ _ _ h => h) (ans_plain (by rfl) (fun w _ => rfl)) ?_
                simp only [Act.put, List.setIfInBounds_toArray, List.set_cons_zero, List.set_cons_succ]
                refine takeG 3 (some 200) (dv D6 q) rfl rfl (by kernel_rfl) (by kernel_rfl) (by kernel_rfl) (fun _ _ _ h => h) (ans_row 42 (.tmp 20) _ 10 rfl (by rfl) X 0 rfl (dc D6 q) (fun u h => (I12.out.bx.below h I12.out.bx.lt).whole) Tryz.underlying42 rfl rfl sizeDk) ?_
                simp only [Act.put, List.setIfInBounds_toArray, List.set_cons_zero, List.set_cons_succ]
                refine takeG 4 (some 201) (.int .i64 (k : Int)) rfl rfl (by kernel_rfl) (by kernel_rfl) (by kernel_rfl) (fun _ _ _ h => h) (ans_plain (by rfl) (fun w _ => rfl)) ?_
                simp only [Act.put, List.setIfInBounds_toArray, List.set_cons_zero, List.set_cons_succ]
                refine callG 2 (some 199) 30 #[.tmp 197, .tmp 198] #[31, 3] #[.pointer (some ⟨d, 0, none⟩), .int .i64 (k : Int)] rfl rfl rfl (by rfl) (by rfl) (by kernel_rfl) Tryz.call30 fun u1 hg1 hs1 => ?_
                refine (oDLook u1 (I12.out.grow hs1).st.b.dk HF6.out (by omega) (k : Int) (by rw [HN6.out]; omega)).mono ?_
                rintro e u2 ⟨p2, m2, c2, rfl, hB2, hb2⟩
                have s2 : Grows wr u2 := Grows.trans hs1 hb2
                refine ⟨_, rfl, s2, ?_⟩
                simp only [Act.put, List.setIfInBounds_toArray, List.set_cons_zero, List.set_cons_succ]
                refine callG 5 (some 202) 31 #[.tmp 200, .tmp 201] #[42, 3] #[dv D6 q, .int .i64 (k : Int)] rfl rfl rfl (by rfl) (by rfl) (by kernel_rfl) Tryz.call31 fun u3 hg3 hs3 => ?_
                refine (rLook u3 (I12.out.grow hs3).rd (nx_new (I12.out.grow hs3)) (k : Int) (by have := HF6.out.safe; omega) (by have := HF6.out.loose; omega)).mono ?_
                rintro e u4 ⟨p4, m4, c4, rfl, hB4, hb4⟩
                have s4 : Grows wr u4 := Grows.trans hs3 hb4
                refine ⟨_, rfl, s4, ?_⟩
                simp only [Act.put, List.setIfInBounds_toArray, List.set_cons_zero, List.set_cons_succ]
                refine callG 6 (some 203) 29 #[.tmp 199, .tmp 202] #[26, 26] #[.slice p2 m2 c2, .slice p4 m4 c4] rfl rfl rfl (by rfl) (by rfl) (by kernel_rfl) Tryz.call29 fun u5 hg5 hs5 => ?_
                refine (rSame u5 ((hB2.1.below (Grows.trans hg3 (Grows.trans hb4 hg5)) (Nat.le_refl _))) (hB4.1.below hg5 (Nat.le_refl _))).mono ?_
                rintro e u6 ⟨rfl, kd, rfl⟩
                rw [decide_eq_true (rfl : D6.look (k : Int) = D6.look (k : Int))]
                have s6 : Grows wr (u5.drewN kd) := Grows.trans hs5 (below_drewN' u5 kd)
                refine ⟨_, rfl, s6, ?_⟩
                simp only [Act.put, List.setIfInBounds_toArray, List.set_cons_zero, List.set_cons_succ]
                refine takeG 7 (some 204) (.bool false) rfl rfl (by kernel_rfl) (by kernel_rfl) (by kernel_rfl) (fun _ _ _ h => h) (ans_plain (by rfl) (fun w _ => by unfold execOp; go_simp)) ?_
                simp only [Act.put, List.setIfInBounds_toArray, List.set_cons_zero, List.set_cons_succ]
                refine doneG (by kernel_rfl) fun u7 hg_u7 hs_u7 => ?_
                have I13 : Hid (DoI w u7 U11 F11 V d r s X D6 D6 S1 M q) := I12.out.grow hs_u7
                clear hs_u7 hg_u7 s6 hs5 hg5 s4 hb4 hs3 hg3 hB2 hB4 s2 hb2 hs1 hg1 I12
                go_wp2_with fail
                go_roundw
                case rel => exact ⟨k + 1, by omega, by go_num, I13⟩
                case measure => simp [intOf]; omega
              · have j5 : ¬ (k : Int) < 40 := by omega
                go_wp2_with fail
                refine (CWK.out wr).mono ?_
                rintro e y10 ⟨rfl, hb10⟩
                have FIN : Hid (Below w.heap.size w y10) := (I12.out.grow hb10).st.bel
                clear hb10 I12
                go_wp2_with fail
                go_ret
                exact ⟨rfl, FIN.out⟩

set_option maxRecDepth 100000 in
theorem lifted (os : Os) (started : os.Started) (H : Type) (enc : TypeId × Value → H) :
    ReturnsInHanded {} Tryz.checked os 3 .any (Rows.redoDoesSpec.pre6 enc Tryz.prog Tryz.f3 Rows.redoDoesRow.domain false) (Rows.redoDoesSpec.post enc Tryz.prog Tryz.f3 false true false false) := by
  refine returnsInHanded_of_change (C := Tryz.checked) own started (by kernel_rfl) Tryz.func3
    (ChangeSpec.witness6 (enc := enc) (C := Tryz.checked) false ⟨#[], #[.slice none 0 0, .int .i64 0, .int .i64 0, .slice none 0 0, .slice none 0 0, .int .i64 0, .int .i64 0], []⟩ 8 (by kernel_rfl) (by kernel_rfl) (by kernel_rfl) (by kernel_rfl)) ?_
  intro W base args ds gs before hval0 hW hcnd _
  have hval : ∀ (j : Nat) t v, Tryz.f3.params[j]? = some t → args[j]? = some v → Value.okWide Tryz.prog W .any base t v := hval0
  have hW' := hW
  obtain ⟨p, q, hA0, hV, rfl, hfz, hnd⟩ := hW
  have hA : DataW.TrodAll enc Tryz.prog W 0 (fun _ => true) true Tryz.f3.params.toList args.toList ds p := hA0
  rw [Tryz.params3] at hA hval
  obtain ⟨v0, vs0, d0, ds0, p0, q0, hargs, rfl, rfl, h0, r0⟩ := trodAll_cons hA
  obtain ⟨v1, vs1, d1, ds1, p1, q1, rfl, rfl, rfl, h1, r1⟩ := trodAll_cons r0
  obtain ⟨v2, vs2, d2, ds2, p2, q2, rfl, rfl, rfl, h2, r2⟩ := trodAll_cons r1
  obtain ⟨v3, vs3, d3, ds3, p3, q3, rfl, rfl, rfl, h3, r3⟩ := trodAll_cons r2
  obtain ⟨v4, vs4, d4, ds4, p4, q4, rfl, rfl, rfl, h4, r4⟩ := trodAll_cons r3
  obtain ⟨v5, vs5, d5, ds5, p5, q5, rfl, rfl, rfl, h5, r5⟩ := trodAll_cons r4
  obtain ⟨v6, vs6, d6, ds6, p6, q6, rfl, rfl, rfl, h6, r6⟩ := trodAll_cons r5
  obtain ⟨rfl, rfl, rfl⟩ := trodAll_nil r6
  obtain rfl : args = #[v0, v1, v2, v3, v4, v5, v6] := by cases args; simp_all
  obtain ⟨rfl, rfl⟩ := trodVars_none hV
  obtain ⟨a0, len0, cap0, rfl⟩ := okWide_slice Tryz.underlying22 (hval 0 22 v0 rfl rfl)
  have k0 := h0
  have lt0 : ∀ x ∈ p0, x.block < W.heap.size := by obtain ⟨m, hm⟩ := k0; exact DataW.trod_lt m _ _ _ hm
  obtain ⟨l0, w0⟩ : ∃ l, Pags W a0 len0 cap0 l := by
    obtain ⟨fuel, hf⟩ := h0
    exact pags_of_trod hf
  obtain ⟨a1, rfl, rfl, rfl, w1⟩ := open_int Tryz.underlying3 (hval 1 3 v1 rfl rfl) h1
  obtain ⟨a2, rfl, rfl, rfl, w2⟩ := open_int Tryz.underlying3 (hval 2 3 v2 rfl rfl) h2
  obtain ⟨a3, len3, cap3, rfl⟩ := okWide_slice Tryz.underlying23 (hval 3 23 v3 rfl rfl)
  have k3 := h3
  have lt3 : ∀ x ∈ p3, x.block < W.heap.size := by obtain ⟨m, hm⟩ := k3; exact DataW.trod_lt m _ _ _ hm
  obtain ⟨l3, w3⟩ : ∃ l, BoW W a3 len3 cap3 l := by
    obtain ⟨fuel, hf⟩ := h3
    exact bow_of_trod hf
  obtain ⟨a4, len4, cap4, rfl⟩ := okWide_slice Tryz.underlying24 (hval 4 24 v4 rfl rfl)
  have k4 := h4
  have lt4 : ∀ x ∈ p4, x.block < W.heap.size := by obtain ⟨m, hm⟩ := k4; exact DataW.trod_lt m _ _ _ hm
  obtain ⟨l4, w4⟩ : ∃ l, Pokes W a4 len4 cap4 l := by
    obtain ⟨fuel, hf⟩ := h4
    exact pokes_of_trod hf
  obtain ⟨a5, rfl, rfl, rfl, w5⟩ := open_int Tryz.underlying3 (hval 5 3 v5 rfl rfl) h5
  obtain ⟨a6, rfl, rfl, rfl, w6⟩ := open_int Tryz.underlying3 (hval 6 3 v6 rfl rfl) h6
  clear hA0 hval0
  refine (walk a0 len0 cap0 l0 a1 a2 a3 len3 cap3 l3 a4 len4 cap4 l4 a5 a6 W w0 w1 w2 w3 w4 w5 w6).mono fun e W' ⟨he, bel⟩ => ?_
  subst he
  exact ⟨_, rfl, _, _, _, [], _, [], hW', trodAll_mk1 (shut_bool Tryz.underlying4 _), (trodAll_cons_mk (Below.trod laidOut (by kernel_rfl) (of_decide_eq_true (by kernel_rfl)) k0 bel lt0) (trodAll_cons_mk (shut_int Tryz.underlying3 w1) (trodAll_cons_mk (shut_int Tryz.underlying3 w2) (trodAll_cons_mk (Below.trod laidOut (by kernel_rfl) (of_decide_eq_true (by kernel_rfl)) k3 bel lt3) (trodAll_cons_mk (Below.trod laidOut (by kernel_rfl) (of_decide_eq_true (by kernel_rfl)) k4 bel lt4) (trodAll_cons_mk (shut_int Tryz.underlying3 w5) (trodAll_cons_mk (shut_int Tryz.underlying3 w6) trodAll_mk0))))))), rfl, bel.frame _, fun h => by cases h⟩

theorem over : Rows.redoDoesRow.holds Tryz.pinned (OpenSpec.ofChange Rows.redoDoesSpec) :=
  OpenClaim.holds_of_wide 3 Tryz.f3 rfl rfl rfl rfl rfl rfl rfl ⟨rfl, rfl, rfl, rfl, rfl⟩ rfl rfl rfl rfl rfl (by kernel_rfl) Tryz.func3 (by kernel_rfl)
    (of_decide_eq_true (by kernel_rfl)) (by unfold Func.isWrapper; first | (rw [if_pos (by decide +kernel)]; kernel_rfl) | (rw [if_neg (by decide +kernel)]; exact ⟨rfl, rfl⟩))
    (fun os started H enc _ => lifted os started H enc)
end RedoDoesLaw

/-- The statement. -/
theorem redoDoes_holds : Rows.RedoDoesSaid := RedoDoesLaw.over
#print axioms redoDoes_holds
end Go.Proofs.YtlenmkhmkommcaaGreat
