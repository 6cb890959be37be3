/-
  Proved: for any pages, any two epochs, any number of pages and any key the statement RedoTells of layer 16 answers true and leaves its arguments as they were. Conditions beside the statement's own: none.
-/
import Derived.Test.YtlenmkhmkommcaaGreatRows
import Derived.Test.YtlenmkhmkommcaaGreatG28
import Derived.Below
import Derived.Deep.DeepCutAuto
import Derived.Deep.CutBlock
import Derived.ChangeOld
namespace Go.Proofs.YtlenmkhmkommcaaGreat
namespace RedoTellsLaw
open Go.ChangeShapes Go.WideShapes Go.ChangeAt Go.RowKit
open Go.ChangeMaps (open_string shut_string)
set_option linter.unusedVariables false

theorem own : ownKnob Tryz.prog.godebug = none := by kernel_rfl
theorem laidOut : laidOutB Tryz.prog = true := by kernel_rfl

set_option maxRecDepth 100000 in
set_option maxHeartbeats 4000000 in
theorem walk (a0 : Option Addr) (len0 cap0 : Nat) (l0 : List Pag) (a1 : Int) (a2 : Int) (a3 : Int) (a4 : Int) (w : World) (w0 : Pags w a0 len0 cap0 l0) (w1 : (Lit.int .u16 a1).wf = true) (w2 : (Lit.int .u16 a2).wf = true) (w3 : (Lit.int .u8 a3).wf = true) (w4 : (Lit.int .u8 a4).wf = true) :
    Calls Tryz.prog 5 #[.slice a0 len0 cap0, .int .u16 a1, .int .u16 a2, .int .u8 a3, .int .u8 a4] w fun e w' => e = .returned (.bool true) ∧ Below w.heap.size w w' := by
  have hlen0 : l0.length = len0 := Sl.len w0
  have hcap0 := Sl.cap w0
  unfold maxLen at hcap0
  obtain ⟨E, rfl⟩ : ∃ E : Nat, a1 = (E : Int) := ⟨a1.toNat, by have := (bounds_u16 w1).1; omega⟩
  have hE : E ≤ 65535 := by have := (bounds_u16 w1).2; omega
  obtain ⟨Y, rfl⟩ : ∃ Y : Nat, a2 = (Y : Int) := ⟨a2.toNat, by have := (bounds_u16 w2).1; omega⟩
  have hY : Y ≤ 65535 := by have := (bounds_u16 w2).2; omega
  obtain ⟨y3, rfl⟩ : ∃ y : Nat, a3 = (y : Int) := ⟨a3.toNat, by have := (bounds_u8 w3).1; omega⟩
  obtain ⟨y4, rfl⟩ : ∃ y : Nat, a4 = (y : Int) := ⟨a4.toNat, by have := (bounds_u8 w4).1; omega⟩
  have h3b : y3 ≤ 255 := by have := (bounds_u8 w3).2; omega
  have h4b : y4 ≤ 255 := by have := (bounds_u8 w4).2; omega
  clear w1 w2 w3 w4
  obtain ⟨N, hN⟩ : ∃ N, N = y3 % 24 := ⟨_, rfl⟩
  have hT3 : (y3 : Int).tmod 24 = (N : Int) := by rw [hN]; exact tmod_nat y3 24
  obtain ⟨K, hK⟩ : ∃ K, K = y4 % 2 := ⟨_, rfl⟩
  have hT4 : (y4 : Int).tmod 2 = (K : Int) := by rw [hK]; exact tmod_nat y4 2
  have hN2 : N ≤ 23 := by omega
  have hK2 : K ≤ 1 := by omega
  clear hN hK
  have CWK : Hid (∀ u, Calls Tryz.prog 6 #[] u fun e w' => e = .returned (.bool true) ∧ Below u.heap.size u w') := fun u => lWorks16 u
  by_cases h1 : (23 : Int) < len0
  · go_enter Tryz.func5, Tryz.ntmps5
    go_wp2_with fail
    refine (CWK.out w).mono ?_
    rintro e w1 ⟨rfl, hb1⟩
    go_wp2_with fail
    go_ret
    exact ⟨rfl, hb1⟩
  · have W0 : Hid (Pags w a0 len0 cap0 l0) := w0
    have HL : Hid (l0.length = len0) := hlen0
    have hl23 : len0 ≤ 23 := by omega
    clear w0 hlen0
    go_enter Tryz.func5, Tryz.ntmps5
    go_wp2_with fail
    refine (oPNew w).mono ?_
    rintro e w1 ⟨r, rfl, hr, hp, hb1⟩
    go_wp2_with fail
    refine (oDNew w1 hp 60 (by omega)).mono ?_
    rintro e w2 ⟨d, U, F, rfl, hd, hU, hb2⟩
    have Q1 : Hid (Below w.heap.size w w1) := hb1
    have Q2 : Hid (Below w1.heap.size w1 w2) := hb2
    have HD : Hid (Dk U F w2 d r (DskS.new PowS.new 60)) := hd
    have HU : Hid (∀ j, U j → j = r ∨ w1.heap.size ≤ j) := hU
    clear hd hU hb2 hb1 hp
    go_wp2_with fail
    refine (oSNew true w2).mono ?_
    rintro e w3 ⟨s, V, M, rfl, hs3, hV3, hb3⟩
    have S3 : Hid (StaB w w3 U F V d r s (DskS.new PowS.new 60) (SeaS.new true) M) := StaB.first Q1.out hr HD.out HU.out Q2.out hs3 hV3 hb3
    clear hs3 hV3 hb3 HD HU Q1 Q2 hr
    go_wp2_with fail
    go_loopw [14] (fun i wr => ∃ k : Nat, k ≤ len0 ∧ i = .int .i64 (k : Int) ∧ Hid (∀ x ∈ l0.take k, x.good 0) ∧ Hid (StaB w wr U F V d r s (DskS.new PowS.new 60) (SeaS.new true) M)) (fun i _ => len0 - (intOf i).toNat)
    case atStart => exact ⟨0, Nat.zero_le _, rfl, fun x hx => by simp at hx, S3⟩
    case round =>
      obtain ⟨k, hk, rfl, HG, S4⟩ := hrel
      clear S3
      by_cases hlt : k < len0
      · have j0 : (k : Int) < (len0 : Int) := by omega
        obtain ⟨x, hx⟩ : ∃ x, l0[k]? = some x := ⟨_, List.getElem?_eq_getElem (by rw [HL.out]; exact hlt)⟩
        obtain ⟨b, o, ha, hlb, c0, c1, c2, hi⟩ := (W0.out.grow S4.out.bel).at hx
        have HX : Hid (l0[k]? = some x) := hx
        obtain ⟨xa, xc, xd⟩ := x
        dsimp only at c0 c1 c2 hi
        clear hx hi
        rw [ha]
        cases xd with
        | true =>
          go_wp2_with fail
          refine (CWK.out wr).mono ?_
          rintro e w5 ⟨rfl, hb5⟩
          have FIN : Hid (Below w.heap.size w w5) := (S4.out.grow hb5).bel
          clear hb5 S4 c0 c1 c2 hlb
          go_wp2_with fail
          go_ret
          exact ⟨rfl, FIN.out⟩
        | false =>
          by_cases t1 : xa < 0
          · go_wp2_with fail
            refine (CWK.out wr).mono ?_
            rintro e w5 ⟨rfl, hb5⟩
            have FIN : Hid (Below w.heap.size w w5) := (S4.out.grow hb5).bel
            clear hb5 S4 c0 c1 c2 hlb
            go_wp2_with fail
            go_ret
            exact ⟨rfl, FIN.out⟩
          · by_cases t2 : (59 : Int) < xa
            · go_wp2_with fail
              refine (CWK.out wr).mono ?_
              rintro e w5 ⟨rfl, hb5⟩
              have FIN : Hid (Below w.heap.size w w5) := (S4.out.grow hb5).bel
              clear hb5 S4 c0 c1 c2 hlb
              go_wp2_with fail
              go_ret
              exact ⟨rfl, FIN.out⟩
            · have HN : Hid (∀ x ∈ l0.take (k + 1), x.good 0) := good_step HX.out HG.out ⟨rfl, by show 0 ≤ xa; omega, by show xa ≤ 59; omega⟩
              go_wp2_with fail
              go_roundw
              case rel => exact ⟨k + 1, by omega, by go_num, HN, S4⟩
              case measure => simp [intOf]; omega
      · have j0 : ¬ (k : Int) < (len0 : Int) := by omega
        rw [List.take_of_length_le (by rw [HL.out]; omega)] at HG
        obtain ⟨D1, D2, S1, LL, z, q1, q2, f1, q3, q4, q5⟩ := tells16 (by rw [HL.out]; exact hl23) HG.out E Y N K hE hY hN2 hK2
        rw [HL.out] at q4 q5
        have CK0 : Hid (∀ u, Calls Tryz.prog 16 #[.int .u8 0] u (KeysC u 0)) := fun u => lKey13 u 0 (by omega)
        have CKK : Hid (∀ u, Calls Tryz.prog 16 #[.int .u8 (K : Int)] u (KeysC u K)) := fun u => lKey13 u K (by omega)
        have CW : Hid (∀ (u : World) (U F V : Nat → Prop) (d r s : Nat) (M : SeaM) (ak a : Option Addr) (ck n c : Nat), Bth U F V u d r s (DskS.new PowS.new 60) (SeaS.new true) M → BA (fun j => ¬ V j) u ak 32 ck (keyC 0) → Imgs (Out U V) u a n c (imgL l0) → Calls Tryz.prog 17 #[.pointer (some ⟨d, 0, none⟩), .pointer (some ⟨s, 0, none⟩), .slice ak 32 ck, .int .i64 (E : Int), .slice a n c] u (WrtP U F V u d r s D1 S1 M 0)) := fun u U F V d r s M ak a ck n c h1 h2 h3 => by
          have := oWrite16 u h1 (DskS.fit_new (n := 60) (by omega)) (by omega) (by decide) h2 (E : Int) (by omega) h3 fun j hj => hj
          rw [q1, q2] at this
          exact this
        have CR : Hid (∀ (u : World) (U F V : Nat → Prop) (d r s : Nat) (M : SeaM) (ak : Option Addr) (ck : Nat), Bth U F V u d r s D1 S1 M → BA (Out U V) u ak 32 ck (keyC K) → Calls Tryz.prog 24 #[.pointer (some ⟨d, 0, none⟩), .pointer (some ⟨s, 0, none⟩), .slice ak 32 ck, .int .i64 (Y : Int), .int .i64 (N : Int)] u (RedP U F V u d r s (D2, LL, z) (redS D1 S1 (keyC K) (Y : Int) (N : Int)) M)) := fun u U F V d r s M ak ck h1 h2 => by
          have := oRead16 u h1 f1 (by omega) h2 (Y : Int) (N : Int) (by omega) (by constructor <;> omega)
          rw [q3] at this
          exact this
        have Q4 : Hid ((E = Y ∧ N = len0 ∧ K = 0) → z = 0 ∧ LL.length = N) := q4
        have Q5 : Hid (¬ (E = Y ∧ N = len0 ∧ K = 0) → z = 6 ∧ LL.length = 0) := q5
        clear q1 q2 q3 q4 q5 f1
        go_wp2_with fail
        refine (CK0.out wr).mono ?_
        rintro e w6 ⟨g6, rfl, _, o6, hb6⟩
        have S6 : Hid (StaB w w6 U F V d r s (DskS.new PowS.new 60) (SeaS.new true) M) := S4.out.grow hb6
        have K6 : Hid (BA (fun j => ¬ V j) w6 (some ⟨g6, 0, none⟩) 32 32 (keyC 0)) := o6.ba.mono fun j _ hj => (S4.out.lt j hj).2
        clear S4 o6 hb6 CK0
        go_wp2_with fail
        refine (lImages w6 (W0.out.grow S6.out.bel) (by omega)).mono ?_
        rintro e w7 ⟨a7, n7, c7, rfl, hI7, hb7⟩
        have S7 : Hid (StaB w w7 U F V d r s (DskS.new PowS.new 60) (SeaS.new true) M) := S6.out.grow hb7
        have K7 : Hid (BA (fun j => ¬ V j) w7 (some ⟨g6, 0, none⟩) 32 32 (keyC 0)) := K6.out.below' hb7
        have I7 : Hid (Imgs (Out U V) w7 a7 n7 c7 (imgL l0)) := hI7.mono fun j _ hj => S6.out.lt j hj
        clear S6 K6 hI7 hb7
        go_wp2_with fail
        refine (CW.out w7 U F V d r s M _ _ _ _ _ S7.out.b K7.out I7.out).mono ?_
        rintro e w8 ⟨U8, F8, rfl, hB8, nU8, nF8, hk8⟩
        have S8 : Hid (StaB w w8 U8 F8 V d r s D1 S1 M) := S7.out.after hB8 nU8 hk8
        clear S7 K7 I7 hB8 nU8 nF8 hk8 CW
        go_wp2_with fail
        refine (CKK.out w8).mono ?_
        rintro e w9 ⟨g9, rfl, _, o9, hb9⟩
        have S9 : Hid (StaB w w9 U8 F8 V d r s D1 S1 M) := S8.out.grow hb9
        have K9 : Hid (BA (Out U8 V) w9 (some ⟨g9, 0, none⟩) 32 32 (keyC K)) := o9.ba.mono fun j _ hj => S8.out.lt j hj
        clear S8 o9 hb9 CKK
        go_wp2_with fail
        refine (CR.out w9 U8 F8 V d r s M _ _ S9.out.b K9.out).mono ?_
        rintro e w10 ⟨a10, n10, c10, U10, F10, rfl, hB10, nU10, nF10, hk10, hI10⟩
        have HB10 : Hid (Below w.heap.size w w10) := (S9.out.after hB10 nU10 hk10).bel
        have HLL : Hid (LL.length = n10) := Sl.len hI10
        clear S9 K9 hB10 nU10 nF10 hk10 hI10 CR
        dsimp only
        by_cases hh : E = Y ∧ N = len0 ∧ K = 0
        · obtain ⟨hz, hl⟩ := Q4.out hh
          rw [HLL.out] at hl
          obtain ⟨e1, e2, e3⟩ := hh
          subst hz hl e1 e3
          rw [← e2]
          clear Q4 Q5 e2
          go_wp2_with fail
          refine (CWK.out w10).mono ?_
          rintro e w11 ⟨rfl, hb11⟩
          have FIN : Hid (Below w.heap.size w w11) := HB10.out.trans (hb11.mono HB10.out.size)
          clear hb11 HB10
          go_wp2_with fail
          go_ret
          exact ⟨rfl, FIN.out⟩
        · obtain ⟨hz, hl⟩ := Q5.out hh
          rw [HLL.out] at hl
          subst hz hl
          clear Q4 Q5
          by_cases e1 : E = Y
          · subst e1
            by_cases e2 : N = len0
            · have e3 : ¬ (K : Int) = 0 := by intro e; exact hh ⟨rfl, e2, by omega⟩
              rw [← e2]
              clear hh e2
              go_wp2_with fail
              refine (CWK.out w10).mono ?_
              rintro e w11 ⟨rfl, hb11⟩
              have FIN : Hid (Below w.heap.size w w11) := HB10.out.trans (hb11.mono HB10.out.size)
              clear hb11 HB10
              go_wp2_with fail
              go_ret
              exact ⟨rfl, FIN.out⟩
            · have e3 : ¬ (N : Int) = (len0 : Int) := by omega
              clear hh e2
              go_wp2_with fail
              refine (CWK.out w10).mono ?_
              rintro e w11 ⟨rfl, hb11⟩
              have FIN : Hid (Below w.heap.size w w11) := HB10.out.trans (hb11.mono HB10.out.size)
              clear hb11 HB10
              go_wp2_with fail
              go_ret
              exact ⟨rfl, FIN.out⟩
          · have e3 : ¬ (E : Int) = (Y : Int) := by omega
            clear hh e1
            go_wp2_with fail
            refine (CWK.out w10).mono ?_
            rintro e w11 ⟨rfl, hb11⟩
            have FIN : Hid (Below w.heap.size w w11) := HB10.out.trans (hb11.mono HB10.out.size)
            clear hb11 HB10
            go_wp2_with fail
            go_ret
            exact ⟨rfl, FIN.out⟩

set_option maxRecDepth 100000 in
theorem lifted (os : Os) (started : os.Started) (H : Type) (enc : TypeId × Value → H) :
    ReturnsInHanded {} Tryz.checked os 5 .any (Rows.redoTellsSpec.pre6 enc Tryz.prog Tryz.f5 Rows.redoTellsRow.domain false) (Rows.redoTellsSpec.post enc Tryz.prog Tryz.f5 false true false false) := by
  refine returnsInHanded_of_change (C := Tryz.checked) own started (by kernel_rfl) Tryz.func5
    (ChangeSpec.witness6 (enc := enc) (C := Tryz.checked) false ⟨#[], #[.slice none 0 0, .int .u16 0, .int .u16 0, .int .u8 0, .int .u8 0], []⟩ 8 (by kernel_rfl) (by kernel_rfl) (by kernel_rfl) (by kernel_rfl)) ?_
  intro W base args ds gs before hval0 hW hcnd _
  have hval : ∀ (j : Nat) t v, Tryz.f5.params[j]? = some t → args[j]? = some v → Value.okWide Tryz.prog W .any base t v := hval0
  have hW' := hW
  obtain ⟨p, q, hA0, hV, rfl, hfz, hnd⟩ := hW
  have hA : DataW.TrodAll enc Tryz.prog W 0 (fun _ => true) true Tryz.f5.params.toList args.toList ds p := hA0
  rw [Tryz.params5] at hA hval
  obtain ⟨v0, vs0, d0, ds0, p0, q0, hargs, rfl, rfl, h0, r0⟩ := trodAll_cons hA
  obtain ⟨v1, vs1, d1, ds1, p1, q1, rfl, rfl, rfl, h1, r1⟩ := trodAll_cons r0
  obtain ⟨v2, vs2, d2, ds2, p2, q2, rfl, rfl, rfl, h2, r2⟩ := trodAll_cons r1
  obtain ⟨v3, vs3, d3, ds3, p3, q3, rfl, rfl, rfl, h3, r3⟩ := trodAll_cons r2
  obtain ⟨v4, vs4, d4, ds4, p4, q4, rfl, rfl, rfl, h4, r4⟩ := trodAll_cons r3
  obtain ⟨rfl, rfl, rfl⟩ := trodAll_nil r4
  obtain rfl : args = #[v0, v1, v2, v3, v4] := by cases args; simp_all
  obtain ⟨rfl, rfl⟩ := trodVars_none hV
  obtain ⟨a0, len0, cap0, rfl⟩ := okWide_slice Tryz.underlying22 (hval 0 22 v0 rfl rfl)
  have k0 := h0
  have lt0 : ∀ x ∈ p0, x.block < W.heap.size := by obtain ⟨m, hm⟩ := k0; exact DataW.trod_lt m _ _ _ hm
  obtain ⟨l0, w0⟩ : ∃ l, Pags W a0 len0 cap0 l := by
    obtain ⟨fuel, hf⟩ := h0
    exact pags_of_trod hf
  obtain ⟨a1, rfl, rfl, rfl, w1⟩ := open_int Tryz.underlying81 (hval 1 81 v1 rfl rfl) h1
  obtain ⟨a2, rfl, rfl, rfl, w2⟩ := open_int Tryz.underlying81 (hval 2 81 v2 rfl rfl) h2
  obtain ⟨a3, rfl, rfl, rfl, w3⟩ := open_int Tryz.underlying5 (hval 3 5 v3 rfl rfl) h3
  obtain ⟨a4, rfl, rfl, rfl, w4⟩ := open_int Tryz.underlying5 (hval 4 5 v4 rfl rfl) h4
  clear hA0 hval0
  refine (walk a0 len0 cap0 l0 a1 a2 a3 a4 W w0 w1 w2 w3 w4).mono fun e W' ⟨he, bel⟩ => ?_
  subst he
  exact ⟨_, rfl, _, _, _, [], _, [], hW', trodAll_mk1 (shut_bool Tryz.underlying4 _), (trodAll_cons_mk (Below.trod laidOut (by kernel_rfl) (of_decide_eq_true (by kernel_rfl)) k0 bel lt0) (trodAll_cons_mk (shut_int Tryz.underlying81 w1) (trodAll_cons_mk (shut_int Tryz.underlying81 w2) (trodAll_cons_mk (shut_int Tryz.underlying5 w3) (trodAll_cons_mk (shut_int Tryz.underlying5 w4) trodAll_mk0))))), rfl, bel.frame _, fun h => by cases h⟩

theorem over : Rows.redoTellsRow.holds Tryz.pinned (OpenSpec.ofChange Rows.redoTellsSpec) :=
  OpenClaim.holds_of_wide 5 Tryz.f5 rfl rfl rfl rfl rfl rfl rfl ⟨rfl, rfl, rfl, rfl, rfl⟩ rfl rfl rfl rfl rfl (by kernel_rfl) Tryz.func5 (by kernel_rfl)
    (of_decide_eq_true (by kernel_rfl)) (by unfold Func.isWrapper; first | (rw [if_pos (by decide +kernel)]; kernel_rfl) | (rw [if_neg (by decide +kernel)]; exact ⟨rfl, rfl⟩))
    (fun os started H enc _ => lifted os started H enc)
end RedoTellsLaw

/-- The statement. -/
theorem redoTells_holds : Rows.RedoTellsSaid := RedoTellsLaw.over
#print axioms redoTells_holds
end Go.Proofs.YtlenmkhmkommcaaGreat
