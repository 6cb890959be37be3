/-
  5 texts in one. No statement of the seat is proved here.
-/
import Derived.Test.YtlenmkhmkommcaaGreatJ24

/-
  The contract of layer 16's program's Write; the disk and the sealer beside each other ('Bth'). Conditions: epochs up to 2^40; a disk and a book that are not too full.
-/
namespace Go.Proofs.YtlenmkhmkommcaaGreat
open Go.RowKit
set_option linter.unusedVariables false

/-- The disk, and the sealer, in memory of their own. -/
structure Bth (U F V : Nat → Prop) (w : World) (d r s : Nat) (D : DskS) (S : SeaS) (M : SeaM) : Prop where
  dk : Dk U F w d r D
  se : Se V w s S M
  ok : S.Ok
  ap : ∀ j, U j → ¬ V j
theorem Bth.grow {U F V : Nat → Prop} {w w' : World} {d r s : Nat} {D : DskS} {S : SeaS} {M : SeaM} (h : Bth U F V w d r s D S M) (hb : Below w.heap.size w w') : Bth U F V w' d r s D S M := ⟨h.dk.grows hb, h.se.grow hb, h.ok, h.ap⟩
/-- The disk was at work. -/
theorem Bth.disk {U F V U' F' : Nat → Prop} {w w' : World} {d r s : Nat} {D D' : DskS} {S : SeaS} {M : SeaM} (h : Bth U F V w d r s D S M) (hd : Dk U' F' w' d r D') (k : Kp F w w') (n : Next w U U') : Bth U' F' V w' d r s D' S M :=
  ⟨hd, h.se.kp k fun j hv hf => h.ap j (h.dk.sub j hf) hv, h.ok, fun j hu hv => by
    rcases n j hu with h1 | h1
    · exact h.ap j h1 hv
    · have := h.se.lt j hv
      omega⟩
/-- The sealer was. -/
theorem Bth.seal {U F V : Nat → Prop} {w w' : World} {d r s : Nat} {D : DskS} {S S' : SeaS} {M : SeaM} (h : Bth U F V w d r s D S M) (hs : Se V w' s S' M) (ho : S'.Ok) (k : Kp V w w') : Bth U F V w' d r s D S' M :=
  ⟨h.dk.keep k h.ap, hs, ho, h.ap⟩
theorem chkL_of {l : List Chg} (h : chkL l = 0) : l.length ≤ 23 ∧ ∀ c ∈ l, okI c := by
  unfold chkL at h
  split at h
  · omega
  · split at h
    · rename_i h1 h2
      exact ⟨by omega, h2⟩
    · omega
/-- What Write answers. -/
def WrtP (U F V : Nat → Prop) (w : World) (d r s : Nat) (D' : DskS) (S' : SeaS) (M : SeaM) (z : Int) (x : Ending) (w' : World) : Prop :=
  ∃ U' F', x = .returned (.int .i64 z) ∧ Bth U' F' V w' d r s D' S' M ∧ Next w U U' ∧ Next w F F' ∧ Kp (fun j => F j ∨ V j) w w'

set_option maxRecDepth 100000 in
set_option maxHeartbeats 4000000 in
theorem oWrite16 (w : World) {U F V A : Nat → Prop} {d r s : Nat} {D : DskS} {S : SeaS} {M : SeaM} (h : Bth U F V w d r s D S M) {mm : Nat} (hf : D.fit mm) (hm : mm ≤ 4000) (hc : S.count + S.book.length + 3 ≤ 1000000)
    {k : List UInt8} {ak : Option Addr} {ck : Nat} (hk : BA (fun j => ¬ V j) w ak 32 ck k) (e : Int) (he : -9223372036854775808 ≤ e ∧ e ≤ 1099511627776) {a : Option Addr} {n c : Nat} {l : List Chg} (hl : Imgs A w a n c l) (hA : ∀ j, A j → ¬ U j ∧ ¬ V j) (hid : Hid (S.ideal = true) := by first | assumption | (show _ = _; rfl)) :
    Calls Tryz.prog 17 #[.pointer (some ⟨d, 0, none⟩), .pointer (some ⟨s, 0, none⟩), .slice ak 32 ck, .int .i64 e, .slice a n c] w (WrtP U F V w d r s (wrtD D S k e l).1 (wrtS S k e l) M (wrtD D S k e l).2) := by
  obtain ⟨P, hP⟩ : ∃ P, P = WrtP U F V w d r s (wrtD D S k e l).1 (wrtS S k e l) M (wrtD D S k e l).2 := ⟨_, rfl⟩
  rw [← hP]
  by_cases h0 : e < 0
  · have HD : Hid (P (.returned (.int .i64 1)) w) := by
      show P _ _
      rw [hP, show wrtD D S k e l = (D, 1) from by unfold wrtD; rw [if_pos h0], show wrtS S k e l = S from by unfold wrtS; rw [if_pos h0]]
      exact ⟨U, F, rfl, h, Next.refl _ _, Next.refl _ _, Kp.refl _ _⟩
    clear hP h hf hk hl hA hm hc
    go_enter Tryz.func17, Tryz.ntmps17
    go_wp2_with fail
    exact HD.out
  · obtain ⟨E, rfl⟩ : ∃ E : Nat, e = (E : Int) := ⟨e.toNat, by omega⟩
    have CC : Hid (Calls Tryz.prog 43 #[.slice a n c] w fun e w' => e = .returned (.int .i64 (chkL l)) ∧ Below w.heap.size w w') := oChk16 w hl
    by_cases hz : chkL l = 0
    · have hD : wrtD D S k (E : Int) l = applyD D (logL (S.made k (nonR E) (besR E) (hedL l)) l) := by
        unfold wrtD
        rw [if_neg h0, if_pos hz, Int.toNat_natCast]
      have hS : wrtS S k (E : Int) l = S.seal k (nonR E) (besR E) (hedL l) := by
        unfold wrtS
        rw [if_neg h0, if_pos hz, Int.toNat_natCast]
      rw [hD, hS] at hP
      rw [hz] at CC
      obtain ⟨hn, hok⟩ := chkL_of hz
      have HLN : Hid (l.length = n) := Sl.len hl
      rw [Sl.len hl] at hn
      have HOK : Hid (∀ c ∈ l, okI c) := hok
      have HB : Hid (Bth U F V w d r s D S M) := h
      have HF : Hid (D.fit mm) := hf
      have HI : Hid (Imgs A w a n c l) := hl
      have HA : Hid (∀ j, A j → ¬ U j ∧ ¬ V j) := hA
      have HK : Hid (BA (fun j => ¬ V j) w ak 32 ck k) := hk
      have HKL : Hid (k.length = 32) := hk.1.len
      have HCC : Hid (S.count + S.book.length + 3 ≤ 1000000) := hc
      have HP : Hid (P = WrtP U F V w d r s (applyD D (logL (S.made k (nonR E) (besR E) (hedL l)) l)).1 (S.seal k (nonR E) (besR E) (hedL l)) M (applyD D (logL (S.made k (nonR E) (besR E) (hedL l)) l)).2) := hP
      clear hP h hf hk hl hA hok hD hS hz hc
      go_enter Tryz.func17, Tryz.ntmps17
      go_wp2_with fail
      refine CC.out.mono ?_
      rintro x w1 ⟨rfl, hb1⟩
      have G1 : Hid (Below w.heap.size w w1) := hb1
      clear hb1 CC
      go_wp2_with fail
      refine (oNonce16 w1 E (by omega)).mono ?_
      rintro x w2 ⟨a2, m2, c2, rfl, o2, hb2⟩
      have lm2 : m2 = 12 := by rw [← o2.toBs.len]; exact nonR_length E
      subst lm2
      have O2 : Hid (Own w2 w.heap.size (.slice a2 12 c2) (nonR E)) := o2.mono G1.out.size
      have G2 : Hid (Below w.heap.size w w2) := G1.out.trans (hb2.mono G1.out.size)
      clear o2 hb2 G1
      go_wp2_with fail
      refine (oBes16 w2 E (by omega)).mono ?_
      rintro x w3 ⟨a3, m3, c3, rfl, o3, hb3⟩
      have lm3 : m3 = 19 := by rw [← o3.toBs.len]; exact besR_length E
      subst lm3
      have O3 : Hid (Own w3 w.heap.size (.slice a3 19 c3) (besR E)) := o3.mono G2.out.size
      have O2' : Hid (Own w3 w.heap.size (.slice a2 12 c2) (nonR E)) := O2.out.below hb3 (Nat.le_refl _)
      have G3 : Hid (Below w.heap.size w w3) := G2.out.trans (hb3.mono G2.out.size)
      clear o3 hb3 G2 O2
      go_wp2_with fail
      refine (oHed16 w3 (HI.out.grow G3.out) hn HOK.out).mono ?_
      rintro x w4 ⟨a4, m4, c4, rfl, o4, hb4⟩
      have lm4 : m4 ≤ 600 := by rw [← o4.toBs.len, hedL_length, HLN.out]; omega
      have O4 : Hid (Own w4 w.heap.size (.slice a4 m4 c4) (hedL l)) := o4.mono G3.out.size
      have O3' : Hid (Own w4 w.heap.size (.slice a3 19 c3) (besR E)) := O3.out.below hb4 (Nat.le_refl _)
      have O2 : Hid (Own w4 w.heap.size (.slice a2 12 c2) (nonR E)) := O2'.out.below hb4 (Nat.le_refl _)
      have G4 : Hid (Below w.heap.size w w4) := G3.out.trans (hb4.mono G3.out.size)
      clear o4 hb4 G3 O2' O3
      have HB4 : Hid (Bth U F V w4 d r s D S M) := HB.out.grow G4.out
      have CS : Hid (Calls Tryz.prog 44 #[.pointer (some ⟨s, 0, none⟩), .slice ak 32 ck, .slice a2 12 c2, .slice a3 19 c3, .slice a4 m4 c4] w4 (Mades V s (S.seal k (nonR E) (besR E) (hedL l)) M (S.made k (nonR E) (besR E) (hedL l)) w4)) := oSSeal w4 HB4.out.se HB4.out.ok (HK.out.grow G4.out) (O2.out.no HB.out.se.lt) (O3'.out.no HB.out.se.lt) (O4.out.no HB.out.se.lt) (by omega) (by omega) HCC.out
      go_wp2_with fail
      refine CS.out.mono ?_
      rintro x w5 ⟨a5, m5, c5, rfl, o5, hse5, kp5⟩
      have lm5 : m5 ≤ 512 := by rw [← o5.toBs.len, SeaS.made_length HKL.out (nonR_length E), hedL_length, HLN.out]; omega
      have HOK5 : (S.seal k (nonR E) (besR E) (hedL l)).Ok := HB.out.ok.seal (by have := HCC.out; omega) _ _ _ _
      have HB5 : Hid (Bth U F V w5 d r s D (S.seal k (nonR E) (besR E) (hedL l)) M) := HB4.out.seal hse5 HOK5 kp5
      have K5 : Hid (Kp (fun j => F j ∨ V j) w w5) := (Kp.of_below G4.out).trans (kp5.mono fun j _ hj => Or.inr hj)
      have HI5 : Hid (Imgs A w5 a n c l) := (HI.out.grow G4.out).kp kp5 fun j hj => (HA.out j hj).2
      have S5 : Hid (Bs w5 a5 m5 c5 (S.made k (nonR E) (besR E) (hedL l))) := o5.toBs
      clear o5 hse5 kp5 HOK5 CS HB4 O4 O3' O2 G4 HI HK HB
      obtain ⟨Z, hZ⟩ : ∃ Z, Z = S.made k (nonR E) (besR E) (hedL l) := ⟨_, rfl⟩
      rw [← hZ] at HP S5
      clear hZ
      go_wp2_with fail
      refine (oLog16 w5 HI5.out hn S5.out (by omega)).mono ?_
      rintro x w6 ⟨a6, m6, c6, rfl, hI6, hb6⟩
      have HI6 : Hid (Imgs (fun j => A j ∨ w5.heap.size ≤ j) w6 a6 m6 c6 (logL Z l)) := hI6
      have lm6 : m6 ≤ 24 := by rw [← Sl.len hI6, logL_length, HLN.out]; omega
      have HB6 : Hid (Bth U F V w6 d r s D (S.seal k (nonR E) (besR E) (hedL l)) M) := HB5.out.grow hb6
      have K6 : Hid (Kp (fun j => F j ∨ V j) w w6) := K5.out.trans (Kp.of_below hb6)
      have HA6 : Hid (∀ j, (A j ∨ w5.heap.size ≤ j) → ¬ F j) := fun j hj hF => by
        have hu := HB5.out.dk.sub j hF
        rcases hj with hj | hj
        · exact (HA.out j hj).1 hu
        · have := HB5.out.dk.lt j hu
          omega
      clear hI6 hb6 HB5 K5 S5 HI5
      go_wp2_with fail
      refine (oApply16 w6 HB6.out.dk HF.out HI6.out HA6.out (by omega)).mono ?_
      rintro x w7 ⟨rfl, U', F', hd7, nU7, nF7, hk7⟩
      have FIN : Hid (P (.returned (.int .i64 (applyD D (logL Z l)).2)) w7) := by
        show P _ _
        rw [HP.out]
        exact ⟨U', F', rfl, HB6.out.disk hd7 hk7 nU7, nU7.of K6.out.size, nF7.of K6.out.size, K6.out.trans (hk7.mono fun j _ hj => Or.inl hj)⟩
      clear hd7 nU7 nF7 hk7 HB6 K6 HI6 HA6
      go_wp2_with fail
      exact FIN.out
    · have hD : wrtD D S k (E : Int) l = (D, chkL l) := by
        unfold wrtD
        rw [if_neg h0, if_neg hz]
      have hS : wrtS S k (E : Int) l = S := by
        unfold wrtS
        rw [if_neg h0, if_neg hz]
      rw [hD, hS] at hP
      have HD : Hid (∀ u, Below w.heap.size w u → P (.returned (.int .i64 (chkL l))) u) := fun u hu => by
        rw [hP]
        exact ⟨U, F, rfl, h.grow hu, Next.refl _ _, Next.refl _ _, Kp.of_below hu⟩
      obtain ⟨Y, hY⟩ : ∃ Y, Y = chkL l := ⟨_, rfl⟩
      rw [← hY] at HD CC hz
      clear hP h hf hk hl hA hm hc hD hS hY
      go_enter Tryz.func17, Tryz.ntmps17
      go_wp2_with fail
      refine CC.out.mono ?_
      rintro x w1 ⟨rfl, hb1⟩
      have FIN : Hid _ := HD.out w1 hb1
      clear hb1 HD CC
      go_wp2_with fail
      exact FIN.out

end Go.Proofs.YtlenmkhmkommcaaGreat

/-
  The contract of layer 16's program's Read. Conditions: epochs up to 2^40; a disk that is not too full.
-/
namespace Go.Proofs.YtlenmkhmkommcaaGreat
open Go.RowKit
set_option linter.unusedVariables false

theorem Dk.read_len {U F : Nat → Prop} {w : World} {d r : Nat} {D : DskS} {k : Int} (h : Dk U F w d r (D.read k).1) (hz : (D.read k).2.2 = 0) : (D.read k).2.1.length = 512 := by
  obtain ⟨⟨M, hm⟩, _⟩ := h
  have hl := hm.look_len k
  unfold DskS.read at hl hz ⊢
  by_cases h1 : k < 0 ∨ D.n ≤ k
  · rw [if_pos h1] at hz
    simp at hz
  · rw [if_neg h1] at hl hz ⊢
    by_cases h2 : D.p.ok = true
    · rw [if_pos h2] at hl ⊢
      exact hl
    · rw [if_neg h2] at hz
      simp at hz
/-- What Read answers. -/
def RedP (U F V : Nat → Prop) (w : World) (d r s : Nat) (R : DskS × List Chg × Int) (S' : SeaS) (M : SeaM) (e : Ending) (w' : World) : Prop :=
  ∃ a n c U' F', e = .returned (.tuple #[.slice a n c, .int .i64 R.2.2]) ∧ Bth U' F' V w' d r s R.1 S' M ∧ Next w U U' ∧ Next w F F' ∧ Kp (fun j => F j ∨ V j) w w' ∧ Imgs (Fr U' w) w' a n c R.2.1

set_option maxRecDepth 100000 in
set_option maxHeartbeats 4000000 in
theorem oRead16 (w : World) {U F V : Nat → Prop} {d r s : Nat} {D : DskS} {S : SeaS} {M : SeaM} (h : Bth U F V w d r s D S M) {mm : Nat} (hf : D.fit mm) (hm : mm ≤ 4000)
    {k : List UInt8} {ak : Option Addr} {ck : Nat} (hk : BA (fun j => ¬ U j ∧ ¬ V j) w ak 32 ck k) (e n : Int) (he : -9223372036854775808 ≤ e ∧ e ≤ 1099511627776) (hn : i64 n) (hid : Hid (S.ideal = true) := by first | assumption | (show _ = _; rfl)) :
    Calls Tryz.prog 24 #[.pointer (some ⟨d, 0, none⟩), .pointer (some ⟨s, 0, none⟩), .slice ak 32 ck, .int .i64 e, .int .i64 n] w (RedP U F V w d r s (redD D S k e n) (redS D S k e n) M) := by
  obtain ⟨P, hP⟩ : ∃ P, P = RedP U F V w d r s (redD D S k e n) (redS D S k e n) M := ⟨_, rfl⟩
  rw [← hP]
  by_cases hbad : badR e n
  · have HD : Hid (P (.returned (.tuple #[.slice none 0 0, .int .i64 1])) w) := by
      show P _ _
      rw [hP, show redD D S k e n = (D, [], 1) from by unfold redD; rw [if_pos hbad], show redS D S k e n = S from by unfold redS; rw [if_pos hbad]]
      exact ⟨none, 0, 0, U, F, rfl, h, Next.refl _ _, Next.refl _ _, Kp.refl _ _, Sl.nil _ _ _ _⟩
    clear hP h hf hk hm
    obtain ⟨n1, n2⟩ := hn
    by_cases h1 : e < 0
    · clear hbad
      go_enter Tryz.func24, Tryz.ntmps24
      go_wp2_with fail
      exact HD.out
    · by_cases h2 : n < 0
      · clear hbad
        go_enter Tryz.func24, Tryz.ntmps24
        go_wp2_with fail
        exact HD.out
      · have h3 : 23 < n := by unfold badR at hbad; omega
        clear hbad
        go_enter Tryz.func24, Tryz.ntmps24
        go_wp2_with fail
        exact HD.out
  · have hg : 0 ≤ e ∧ 0 ≤ n ∧ n ≤ 23 := by unfold badR at hbad; omega
    obtain ⟨E, rfl⟩ : ∃ E : Nat, e = (E : Int) := ⟨e.toNat, by omega⟩
    obtain ⟨N, rfl⟩ : ∃ N : Nat, n = (N : Int) := ⟨n.toNat, by omega⟩
    have hN : N ≤ 23 := by omega
    have hE : E ≤ 1099511627776 := by omega
    have HB : Hid (Bth U F V w d r s D S M) := h
    have HF : Hid (D.fit mm) := hf
    have HK : Hid (BA (fun j => ¬ U j ∧ ¬ V j) w ak 32 ck k) := hk
    have HKL : Hid (k.length = 32) := hk.1.len
    have eD : redD D S k (E : Int) (N : Int) = if (D.read 0).2.2 = 0 then (match S.opens k (nonR E) (besR E) ((D.read 0).2.1.take (18 + 2 * N)) with | none => ((D.read 0).1, [], 6) | some t => if getN (t.take 2) = N then readD (D.read 0).1 1 [] (pagL t N) else ((D.read 0).1, [], 6)) else ((D.read 0).1, [], (D.read 0).2.2) := by
      unfold redD opnR
      rw [if_neg hbad, Int.toNat_natCast, Int.toNat_natCast]
      rfl
    have eS : redS D S k (E : Int) (N : Int) = if (D.read 0).2.2 = 0 then S.opened k (nonR E) (besR E) ((D.read 0).2.1.take (18 + 2 * N)) else S := by
      unfold redS
      rw [if_neg hbad, Int.toNat_natCast, Int.toNat_natCast]
    rw [eD, eS] at hP
    have HP : Hid _ := hP
    have hf1 := hf.a_read 0
    have HF1 : Hid ((D.read 0).1.fit (mm + 3)) := hf1
    clear hP h hf hk hbad hg eD eS hf1 he hn
    go_enter Tryz.func24, Tryz.ntmps24
    go_wp2_with fail
    refine (oDReadB w HB.out.dk HF.out (by omega) 0 (by constructor <;> omega)).mono ?_
    rintro x w1 ⟨p, m, q, rfl, U1, F1, hd1, nU1, nF1, hk1, hb1⟩
    have B1 : Hid (Bth U1 F1 V w1 d r s (D.read 0).1 S M) := HB.out.disk hd1 hk1 nU1
    have N1 : Hid (Next w U U1 ∧ Next w F F1) := ⟨nU1, nF1⟩
    have KP1 : Hid (Kp (fun j => F j ∨ V j) w w1) := hk1.mono fun j _ hj => Or.inl hj
    have X1 : Hid (B5 (Fr U1 w) w1 p m q (D.read 0).2.1) := hb1
    have HRL : Hid ((D.read 0).2.2 = 0 → (D.read 0).2.1.length = 512) := fun hz => hd1.read_len hz
    have K1 : Hid (BA (fun j => ¬ U1 j ∧ ¬ V j) w1 ak 32 ck k) := by
      have h1 : BA (fun j => (¬ U j ∧ ¬ V j) ∧ j < w.heap.size) w ak 32 ck k := HK.out.mono fun j hj ha => ⟨ha, hj⟩
      refine (h1.kp hk1 fun j hj hF => hj.1.1 (HB.out.dk.sub j hF)).mono fun j _ hj => ⟨fun hu => ?_, hj.1.2⟩
      rcases nU1 j hu with h2 | h2
      · exact hj.1.1 h2
      · have := hj.2
        omega
    clear hd1 nU1 nF1 hk1 hb1 HK HB HF
    obtain ⟨z, hz⟩ : ∃ z, z = (D.read 0).2.2 := ⟨_, rfl⟩
    obtain ⟨D1, hD1⟩ : ∃ D1, D1 = (D.read 0).1 := ⟨_, rfl⟩
    obtain ⟨bl, hbl⟩ : ∃ bl, bl = (D.read 0).2.1 := ⟨_, rfl⟩
    rw [← hz, ← hD1, ← hbl] at HP
    rw [← hD1] at B1 HF1
    rw [← hbl] at X1 HRL
    rw [← hz] at HRL
    rw [← hz]
    clear hz hD1 hbl
    by_cases z0 : z = 0
    · subst z0
      have HP' : Hid (P = RedP U F V w d r s (match S.opens k (nonR E) (besR E) (bl.take (18 + 2 * N)) with | none => (D1, [], 6) | some t => if getN (t.take 2) = N then readD D1 1 [] (pagL t N) else (D1, [], 6)) (S.opened k (nonR E) (besR E) (bl.take (18 + 2 * N))) M) := by
        show P = _
        rw [HP.out, if_pos rfl, if_pos rfl]
      have lm : m = 512 := by rw [← X1.out.1.len]; exact HRL.out rfl
      subst lm
      clear HP HRL
      obtain ⟨KK, hKK⟩ : ∃ KK : Nat, KK = 18 + 2 * N := ⟨_, rfl⟩
      have hK5 : KK ≤ 512 := by omega
      have hk1 : (2 : Int) + 2 * (N : Int) + 16 = (KK : Int) := by omega
      obtain ⟨H, hH⟩ : ∃ H : Nat, H = 2 + 2 * N := ⟨_, rfl⟩
      have hk2 : (H : Int) + 16 = (KK : Int) := by omega
      have CH : Hid (∀ u, Calls Tryz.prog 58 #[.int .i64 (N : Int)] u fun e w' => e = .returned (.int .i64 (H : Int)) ∧ u = w') := fun u => by rw [hH]; exact oHdSize u N (by omega)
      have HT : Hid (∀ t, S.opens k (nonR E) (besR E) (bl.take KK) = some t → t.length = 2 + 2 * N) := fun t ht => by
        have h1 := B1.out.ok.opens_length HKL.out (nonR_length E) ht
        rw [List.length_take, X1.out.1.len] at h1
        omega
      rw [← hKK] at HP'
      obtain ⟨s1, s2⟩ := X1.out.1.cutHigh KK hK5
      have S2 : Hid (∀ u, Bs u p 512 q bl → Bs u p KK q (bl.take KK)) := s2
      clear hKK hH s2 hk1
      have hHs : H ≤ 600 := by omega
      go_wp2_with fail
      refine (oNonce16 w1 E (by omega)).mono ?_
      rintro x w2 ⟨a2, m2, c2, rfl, o2, hb2⟩
      have lm2 : m2 = 12 := by rw [← o2.toBs.len]; exact nonR_length E
      subst lm2
      have O2 : Hid (Bs w2 a2 12 c2 (nonR E)) := o2.toBs
      have G2 : Hid (Below w1.heap.size w1 w2) := hb2
      clear o2 hb2
      go_wp2_with fail
      refine (oBes16 w2 E (by omega)).mono ?_
      rintro x w3 ⟨a3, m3, c3, rfl, o3, hb3⟩
      have lm3 : m3 = 19 := by rw [← o3.toBs.len]; exact besR_length E
      subst lm3
      have O3 : Hid (Bs w3 a3 19 c3 (besR E)) := o3.toBs
      have O2' : Hid (Bs w3 a2 12 c2 (nonR E)) := O2.out.below hb3 (Nat.le_refl _)
      have G3 : Hid (Below w1.heap.size w1 w3) := G2.out.trans (hb3.mono G2.out.size)
      clear o3 hb3 G2 O2
      go_wp2_with fail
      refine (CH.out w3).mono ?_
      rintro x w4 ⟨rfl, rfl⟩
      have B4 : Hid (Bth U1 F1 V w3 d r s D1 S M) := B1.out.grow G3.out
      have CO : Hid (Calls Tryz.prog 57 #[.pointer (some ⟨s, 0, none⟩), .slice ak 32 ck, .slice a2 12 c2, .slice a3 19 c3, .slice p KK q] w3 (OpensS V s (S.opened k (nonR E) (besR E) (bl.take KK)) M (S.opens k (nonR E) (besR E) (bl.take KK)) w3)) := oSOpen w3 B4.out.se (K1.out.1.below G3.out (Nat.le_refl _)) O2'.out O3.out (S2.out w3 (X1.out.1.below G3.out (Nat.le_refl _))) (by omega) (by omega)
      have KP3 : Hid (Kp (fun j => F j ∨ V j) w w3) := KP1.out.trans (Kp.of_below G3.out)
      clear O3 O2' G3 B1 K1 X1 KP1 S2 CH
      go_wp2_with fail
      refine CO.out.mono ?_
      rintro x w5 ⟨a5, m5, c5, rfl, hb5, hse5, kp5⟩
      have B5' : Hid (Bth U1 F1 V w5 d r s D1 (S.opened k (nonR E) (besR E) (bl.take KK)) M) := B4.out.seal hse5 (B4.out.ok.opened _ _ _ _) kp5
      have KP5 : Hid (Kp (fun j => F j ∨ V j) w w5) := KP3.out.trans (kp5.mono fun j _ hj => Or.inr hj)
      have X5 : Hid (BA (fun j => w3.heap.size ≤ j) w5 a5 m5 c5 ((S.opens k (nonR E) (besR E) (bl.take KK)).getD [])) := hb5
      clear hb5 hse5 kp5 CO B4 KP3 s1
      obtain ⟨S1, hS1⟩ : ∃ S1, S1 = S.opened k (nonR E) (besR E) (bl.take KK) := ⟨_, rfl⟩
      rw [← hS1] at B5' HP'
      obtain ⟨O, hO⟩ : ∃ O, O = S.opens k (nonR E) (besR E) (bl.take KK) := ⟨_, rfl⟩
      rw [← hO] at X5 HP' HT
      rw [← hO]
      clear hS1 hO
      cases O with
      | none =>
        have HD : Hid (P (.returned (.tuple #[.slice none 0 0, .int .i64 6])) w5) := by
          show P _ _
          rw [HP'.out]
          exact ⟨none, 0, 0, U1, F1, rfl, B5'.out, N1.out.1, N1.out.2, KP5.out, Sl.nil _ _ _ _⟩
        clear HP' X5 B5' KP5 HT
        go_wp2_with fail
        exact HD.out
      | some t =>
        have HTL : Hid (t.length = 2 + 2 * N) := HT.out t rfl
        have X5' : Hid (Bs w5 a5 m5 c5 t) := X5.out.1
        have lm5 : m5 ≤ 1000 := by rw [← X5'.out.len, HTL.out]; omega
        clear X5 HT
        have HP5 : Hid (P = RedP U F V w d r s (if getN (t.take 2) = N then readD D1 1 [] (pagL t N) else (D1, [], 6)) S1 M) := HP'.out
        clear HP'
        go_wp2_with fail
        refine (oReadP w5 X5'.out lm5).mono ?_
        rintro x w6 ⟨rr, rfl, hr6, hb6⟩
        have HRR : Hid (w5.heap.size ≤ rr) := hr6.1
        have B6 : Hid (Bth U1 F1 V w6 d r s D1 S1 M) := B5'.out.grow hb6
        have KP6 : Hid (Kp (fun j => F j ∨ V j) w w6) := KP5.out.trans (Kp.of_below hb6)
        have R6 : Hid (RdP (fun j => ¬ U1 j) w6 rr t) := hr6.mono fun j _ hj hu => by have := B5'.out.dk.lt j hu; omega
        have L5 : Hid (w.heap.size ≤ w5.heap.size) := KP5.out.size
        have HVR : Hid (∀ j, V j → ¬ j = rr) := fun j hj ej => by have := B5'.out.se.lt j hj; have := HRR.out; omega
        have L6 : Hid (w5.heap.size ≤ w6.heap.size) := hb6.size
        clear hr6 hb6 B5' KP5 X5'
        have hg2 := getN_two (l := t.take 2) (by rw [List.length_take]; omega)
        have CN : Hid (Calls Tryz.prog 60 #[.pointer (some ⟨rr, 0, none⟩), .int .i64 2] w6 fun e w' => e = .returned (.int .u64 (getN (t.take 2) : Nat)) ∧ RdP (fun j => ¬ U1 j) w' rr (t.drop 2) ∧ w6.grownBy w' (some rr)) := oNumP w6 rr R6.out 2 (by rw [HTL.out]; omega) (by rw [HTL.out]; omega)
        obtain ⟨G, hG⟩ : ∃ G, G = getN (t.take 2) := ⟨_, rfl⟩
        rw [← hG] at CN hg2 HP5
        clear hG
        go_wp2_with fail
        refine CN.out.mono ?_
        rintro x w7 ⟨rfl, hr7, hg7⟩
        have KR7 : Kp (fun j => j = rr) w6 w7 := ⟨hg7.os, hg7.tape, hg7.output, hg7.size, fun j hj hn => hg7.block j hj fun e => hn (Option.some.inj e)⟩
        have hVr : ∀ j, V j → ¬ j = rr := HVR.out
        have B7 : Hid (Bth U1 F1 V w7 d r s D1 S1 M) := ⟨B6.out.dk.keep KR7 fun j hj ej => R6.out.1 (ej ▸ hj), B6.out.se.kp KR7 hVr, B6.out.ok, B6.out.ap⟩
        have KP7 : Hid (Kp (fun j => F j ∨ V j) w w7) := KP6.out.newer KR7 fun j hj => by rw [hj]; exact Nat.le_trans L5.out HRR.out
        have R7 : Hid (RdP (fun j => ¬ U1 j) w7 rr (t.drop 2)) := hr7
        clear hr7 hg7 KR7 hVr B6 KP6 R6 CN
        by_cases hGN : G = N
        · subst hGN
          have HP6 : Hid (P = RedP U F V w d r s (readD D1 1 [] (pagL t G)) S1 M) := by show P = _; rw [HP5.out, if_pos rfl]
          clear HP5
          go_wp2_with fail
          refine (oNoted16 w7 B7.out.dk HF1.out R7.out HTL.out hN (by omega)).mono ?_
          rintro x w8 ⟨a8, m8, c8, U8, F8, rfl, hd8, nU8, nF8, hk8, hI8⟩
          have HD : Hid (P (.returned (.tuple #[.slice a8 m8 c8, .int .i64 (readD D1 1 [] (pagL t G)).2.2])) w8) := by
            show P _ _
            rw [HP6.out]
            have hse8 : Se V w8 s S1 M := B7.out.se.kp hk8 fun j hv hf => by
              rcases hf with hf | hf
              · exact B7.out.ap j (B7.out.dk.sub j hf) hv
              · exact HVR.out j hv hf
            refine ⟨a8, m8, c8, U8, F8, rfl, ⟨hd8, hse8, B7.out.ok, fun j hu hv => ?_⟩, N1.out.1.more nU8 KP7.out.size, N1.out.2.more nF8 KP7.out.size, ?_, hI8.mono fun j _ hj => ⟨hj.1, Nat.le_trans KP7.out.size hj.2⟩⟩
            · rcases nU8 j hu with h2 | h2
              · exact B7.out.ap j h2 hv
              · have := B7.out.se.lt j hv
                omega
            · refine ⟨hk8.os.trans KP7.out.os, hk8.tape.trans KP7.out.tape, hk8.output.trans KP7.out.output, Nat.le_trans KP7.out.size hk8.size, fun i hi hn => (hk8.block i (Nat.lt_of_lt_of_le hi KP7.out.size) fun hf => ?_).trans (KP7.out.block i hi hn)⟩
              rcases hf with hf | hf
              · rcases N1.out.2 i hf with h2 | h2
                · exact hn (Or.inl h2)
                · omega
              · have := L5.out
                have := HRR.out
                omega
          clear hd8 nU8 nF8 hk8 hI8 B7 R7 KP7
          go_wp2_with fail
          exact HD.out
        · have HP6 : Hid (P = RedP U F V w d r s (D1, [], 6) S1 M) := by show P = _; rw [HP5.out, if_neg hGN]
          have HD : Hid (P (.returned (.tuple #[.slice none 0 0, .int .i64 6])) w7) := by
            show P _ _
            rw [HP6.out]
            exact ⟨none, 0, 0, U1, F1, rfl, B7.out, N1.out.1, N1.out.2, KP7.out, Sl.nil _ _ _ _⟩
          have hne : ¬ (G : Int) = (N : Int) := by omega
          clear HP5 HP6 B7 KP7 R7 hGN
          go_wp2_with fail
          exact HD.out
    · have HD : Hid (P (.returned (.tuple #[.slice none 0 0, .int .i64 z])) w1) := by
        show P _ _
        rw [HP.out, if_neg z0, if_neg z0]
        exact ⟨none, 0, 0, U1, F1, rfl, B1.out, N1.out.1, N1.out.2, KP1.out, Sl.nil _ _ _ _⟩
      clear HP HRL B1 N1 KP1 X1 K1
      go_wp2_with fail
      exact HD.out

end Go.Proofs.YtlenmkhmkommcaaGreat

/-
  How the arguments of layer 16's laws are opened: slices of pages (three cells each); and what Images makes of them. Condition: at most a thousand pages.
-/
namespace Go.Proofs.YtlenmkhmkommcaaGreat
open Go.RowKit Go.ChangeShapes Go.WideShapes Go.ChangeAt
set_option linter.unusedVariables false

/-- A page that is to be noted. -/
structure Pag where
  at_ : Int
  c : UInt8
  bad : Bool
def elPg (w : World) (x : Pag) (vs : List Value) : Prop := vs = [.int .i64 x.at_, .int .u8 (x.c.toNat : Int), .bool x.bad] ∧ i64 x.at_
theorem page_of_trod {H : Type} {enc : TypeId × Value → H} {W : World} {base : Nat} {held : Bool} {fuel : Nat} {cs : List Value} {x : DataW H × List MemPlace}
    (h : DataW.trod enc Tryz.prog W base (fun _ => true) held fuel 77 cs = some x) : ∃ p, Row elPg 3 W p cs := by
  obtain ⟨xs, n, rfl, rfl, hl, hx, hf⟩ := DataW.trod_struct Tryz.underlying77 h
  have c3 : Tryz.prog.cellsOf 3 = 1 := by kernel_rfl
  have c4 : Tryz.prog.cellsOf 4 = 1 := by kernel_rfl
  have c5 : Tryz.prog.cellsOf 5 = 1 := by kernel_rfl
  have cP : Tryz.prog.cellsOf 77 = 3 := by kernel_rfl
  rw [cP] at hl
  obtain ⟨v0, cs0, rfl, hl0⟩ := len_cons hl
  obtain ⟨v1, cs1, rfl, hl1⟩ := len_cons hl0
  obtain ⟨v2, cs2, rfl, hl2⟩ := len_cons hl1
  obtain rfl := len_zero hl2
  have f0 : DataW.trod enc Tryz.prog W base (fun _ => true) held n 3 (List.take (Tryz.prog.cellsOf 3) (List.drop 0 [v0, v1, v2])) = xs[0]? := hf 0 _ rfl
  have f1 : DataW.trod enc Tryz.prog W base (fun _ => true) held n 5 (List.take (Tryz.prog.cellsOf 5) (List.drop 1 [v0, v1, v2])) = xs[1]? := hf 1 _ rfl
  have f2 : DataW.trod enc Tryz.prog W base (fun _ => true) held n 4 (List.take (Tryz.prog.cellsOf 4) (List.drop 2 [v0, v1, v2])) = xs[2]? := hf 2 _ rfl
  have hx3 : xs.length = 3 := hx
  rw [c3] at f0
  rw [c5] at f1
  rw [c4] at f2
  rw [List.getElem?_eq_getElem (by omega)] at f0 f1 f2
  obtain ⟨p, e0, _, w0⟩ := DataW.trod_int Tryz.underlying3 f0
  obtain ⟨q, e1, _, w1⟩ := DataW.trod_int Tryz.underlying5 f1
  obtain ⟨z, e2, _⟩ := DataW.trod_bool Tryz.underlying4 f2
  simp at e0 e1 e2
  subst e0 e1 e2
  have hb := bounds_u8 w1
  have ey : q = ((UInt8.ofNat q.toNat).toNat : Int) := by rw [UInt8.toNat_ofNat']; omega
  refine ⟨⟨p, UInt8.ofNat q.toNat, z⟩, rfl, ?_, ?_, bounds_i64 w0⟩
  · intro u hu
    simp only [List.mem_cons, List.not_mem_nil, or_false] at hu
    rcases hu with rfl | rfl | rfl <;> rfl
  · show _ = [Value.int .i64 p, .int .u8 ((UInt8.ofNat q.toNat).toNat : Int), .bool z]
    rw [← ey]
/-- Pages that were handed in. -/
def Pags (w : World) (a : Option Addr) (n c : Nat) (l : List Pag) : Prop := Sl elPg 3 (fun j => j < w.heap.size) w a n c l
theorem pags_of_trod {H : Type} {enc : TypeId × Value → H} {W : World} {base : Nat} {held : Bool} {fuel : Nat} {a : Option Addr} {n c : Nat} {x : DataW H × List MemPlace}
    (h : DataW.trod enc Tryz.prog W base (fun _ => true) held fuel 22 [.slice a n c] = some x) : ∃ l, Pags W a n c l := by
  rcases Deep.open_slice Tryz.underlying22 h with ⟨hcs, _⟩ | ⟨y, len, cap, m, n', D, Pl, hcs, _, hl, hm, hmm, _, hrow⟩
  · simp at hcs
    obtain ⟨rfl, rfl, rfl⟩ := hcs
    exact ⟨[], Sl.nil _ _ _ _⟩
  · simp at hcs
    obtain ⟨rfl, rfl, rfl⟩ := hcs
    have cP : Tryz.prog.cellsOf 77 = 3 := by kernel_rfl
    rw [cP] at hrow
    simp at hmm
    subst hmm
    refine Sl.of_rows (⟨0, 0, false⟩ : Pag) (base := base) (by omega) hl hm (fun _ h => h) fun i hi => ?_
    obtain ⟨cs', h1, h2⟩ := hrow i (by omega)
    exact ⟨cs', h1, page_of_trod h2⟩
theorem Pags.grow {w w' : World} {a : Option Addr} {n c : Nat} {l : List Pag} (h : Pags w a n c l) (hb : Below w.heap.size w w') : Pags w' a n c l :=
  (Sl.keep h hb.size (fun _ _ hx => hx) fun j hj _ => hb.block j hj).mono (fun _ _ hx => hx) fun j hj _ => hj
/-- One of them. -/
theorem Pags.at {w : World} {a : Option Addr} {n c : Nat} {l : List Pag} (h : Pags w a n c l) {s : Nat} {x : Pag} (hx : l[s]? = some x) :
    ∃ b o, a = some ⟨b, o, none⟩ ∧ b < w.heap.size ∧ w.cell? ⟨b, o + s * 3, none⟩ = some (.int .i64 x.at_) ∧ w.cell? ⟨b, o + s * 3 + 1, none⟩ = some (.int .u8 (x.c.toNat : Int)) ∧ w.cell? ⟨b, o + s * 3 + 2, none⟩ = some (.bool x.bad) ∧ i64 x.at_ := by
  obtain ⟨b, o, vs, ha, hlt, hrg, hl, rfl, hi⟩ := Sl.at h hx
  exact ⟨b, o, ha, hlt, hrg 0 _ rfl, hrg 1 _ rfl, hrg 2 _ rfl, hi⟩
/-- A page's image. -/
def Pag.img (x : Pag) : Chg := (x.at_, if x.bad then (like x.c).tail else like x.c)
def imgL (l : List Pag) : List Chg := l.map Pag.img
theorem imgL_length (l : List Pag) : (imgL l).length = l.length := List.length_map ..
/-- What Images answers. -/
def ImgsP (w : World) (l : List Chg) (e : Ending) (w' : World) : Prop := ∃ a n c, e = .returned (.slice a n c) ∧ Imgs (fun j => w.heap.size ≤ j) w' a n c l ∧ Below w.heap.size w w'

set_option maxRecDepth 100000 in
set_option maxHeartbeats 2000000 in
theorem lImages (w : World) {a : Option Addr} {n c : Nat} {l : List Pag} (h : Pags w a n c l) (hn : n ≤ 1000) : Calls Tryz.prog 12 #[.slice a n c] w (ImgsP w (imgL l)) := by
  have HI : Hid (Pags w a n c l) := h
  have HL : Hid (l.length = n) := Sl.len h
  clear h
  go_enter Tryz.func12, Tryz.ntmps12
  go_wp2_with fail
  go_loopw [3, 4] (fun out i wr => ∃ (k : Nat) (oa : Option Addr) (on oc : Nat), k ≤ n ∧ i = .int .i64 (k : Int) ∧ out = .slice oa on oc ∧ Hid (OwS (elC fun j => w.heap.size ≤ j) 2 79 wr w.heap.size (.slice oa on oc) (imgL (l.take k))) ∧ Hid (Below w.heap.size w wr)) (fun _ i _ => n - (intOf i).toNat)
  case atStart => exact ⟨0, none, 0, 0, Nat.zero_le _, rfl, rfl, OwS.nil _ _ _ _ _, Below.refl _ _⟩
  case round =>
    obtain ⟨k, oa, on, oc, hk, rfl, rfl, HO, HB⟩ := hrel
    by_cases hlt : k < n
    · have j0 : (k : Int) < (n : Int) := by omega
      obtain ⟨x, hx⟩ : ∃ x, l[k]? = some x := ⟨_, List.getElem?_eq_getElem (by rw [HL.out]; exact hlt)⟩
      obtain ⟨b, o, ha, hlb, c0, c1, c2, hi⟩ := (HI.out.grow HB.out).at hx
      have HT : Hid (imgL (l.take (k + 1)) = imgL (l.take k) ++ [x.img]) := by
        show _ = _
        rw [List.take_add_one, hx]
        simp [imgL]
      have HZ : Hid ((imgL (l.take k)).length + 1 ≤ 1000000) := by
        show _ ≤ _
        rw [imgL_length, List.length_take, HL.out]
        omega
      obtain ⟨OL, hOL⟩ : ∃ OL, OL = imgL (l.take k) := ⟨_, rfl⟩
      rw [← hOL] at HO HT HZ
      obtain ⟨xa, xc, xd⟩ := x
      dsimp only at c0 c1 c2 hi
      clear hx hOL
      rw [ha]
      go_wp2_with fail
      refine (lFill wr xc).mono ?_
      rintro e w1 ⟨g, rfl, hg, hb5, hb1⟩
      have f0 : w1.cell? ⟨b, o + k * 3, none⟩ = some (.int .i64 xa) := by rw [hb1.cell (p := ⟨b, o + k * 3, none⟩) hlb]; exact c0
      have f2 : w1.cell? ⟨b, o + k * 3 + 2, none⟩ = some (.bool xd) := by rw [hb1.cell (p := ⟨b, o + k * 3 + 2, none⟩) hlb]; exact c2
      have lb1 : b < w1.heap.size := Nat.lt_of_lt_of_le hlb hb1.size
      have HO1 : Hid (OwS (elC fun j => w.heap.size ≤ j) 2 79 w1 w.heap.size (.slice oa on oc) OL) := OwC.below HO.out hb1
      have HB1 : Hid (Below w.heap.size w w1) := HB.out.trans (hb1.mono HB.out.size)
      have X1 : Hid (B5 (fun j => w.heap.size ≤ j) w1 (some ⟨g, 0, none⟩) 512 512 (like xc)) := hb5.mono fun j _ hj => Nat.le_trans HB.out.size hj
      have HI64 : Hid (i64 xa) := hi
      clear c0 c1 c2 hlb HO HB hb5 hb1 hi
      cases xd with
      | true =>
        have b4 : Hid (Blk (w1.alloc (.cells #[.int .i64 xa, .slice (some ⟨g, 1, none⟩) 511 511] 79)) w1.heap.size [.int .i64 xa, .slice (some ⟨g, 1, none⟩) 511 511] 79) := Blk.newAt w1 _ _ w1.heap.size rfl _ rfl
        have k4 : Hid (Below w1.heap.size w1 (w1.alloc (.cells #[.int .i64 xa, .slice (some ⟨g, 1, none⟩) 511 511] 79))) := below_alloc _ _
        have HO4 : Hid (OwS (elC fun j => w.heap.size ≤ j) 2 79 (w1.alloc (.cells #[.int .i64 xa, .slice (some ⟨g, 1, none⟩) 511 511] 79)) w.heap.size (.slice oa on oc) OL) := OwC.below HO1.out k4.out
        have HB4 : Hid (Below w.heap.size w (w1.alloc (.cells #[.int .i64 xa, .slice (some ⟨g, 1, none⟩) 511 511] 79))) := HB1.out.trans (k4.out.mono HB1.out.size)
        have HR4 : Hid (Row (elC fun j => w.heap.size ≤ j) 2 (w1.alloc (.cells #[.int .i64 xa, .slice (some ⟨g, 1, none⟩) 511 511] 79)) (Pag.img ⟨xa, xc, true⟩) [.int .i64 xa, .slice (some ⟨g, 1, none⟩) 511 511]) := ⟨rfl, oneI _ _ _ _, _, _, _, rfl, X1.out.tail.below k4.out, HI64.out⟩
        clear k4 HO1 HB1 X1 HI64
        go_wp2_with (at_builtin; refine wpList_app1At (elC fun j => w.heap.size ≤ j) 2 32 46 79 _ Tryz.underlying46 infoI rfl (by decide) (by decide) (w1.alloc (.cells #[.int .i64 xa, .slice (some ⟨g, 1, none⟩) 511 511] 79)) rfl (.tmp 25) (.tmp 33) rfl w.heap.size (.slice oa on oc) OL rfl HO4.out w1.heap.size 1 (Pag.img ⟨xa, xc, true⟩) [.int .i64 xa, .slice (some ⟨g, 1, none⟩) 511 511] rfl b4.out.whole HR4.out HZ.out HB4.out.size (fun w' x vs hg hx => elC.grown hg (HO4.out.not5 neI5) x vs hx) ?_; intro v5 w5 o5 g5 _; obtain ⟨a5, n5, c5, rfl, hn5⟩ := o5.shape; have O5 : Hid (OwS (elC fun j => w.heap.size ≤ j) 2 79 w5 w.heap.size (.slice a5 n5 c5) (imgL (l.take (k + 1)))) := (by rw [HT.out]; exact o5); have B5' : Hid (Below w.heap.size w w5) := HB4.out.grown g5 HB4.out.size (fun j hj => (HO4.out.lt j hj).1); clear o5 g5 hn5)
        go_roundw
        case rel => exact ⟨k + 1, _, _, _, by omega, by go_num, rfl, O5, B5'⟩
        case measure => simp [intOf]; omega
      | false =>
        have b4 : Hid (Blk (w1.alloc (.cells #[.int .i64 xa, .slice (some ⟨g, 0, none⟩) 512 512] 79)) w1.heap.size [.int .i64 xa, .slice (some ⟨g, 0, none⟩) 512 512] 79) := Blk.newAt w1 _ _ w1.heap.size rfl _ rfl
        have k4 : Hid (Below w1.heap.size w1 (w1.alloc (.cells #[.int .i64 xa, .slice (some ⟨g, 0, none⟩) 512 512] 79))) := below_alloc _ _
        have HO4 : Hid (OwS (elC fun j => w.heap.size ≤ j) 2 79 (w1.alloc (.cells #[.int .i64 xa, .slice (some ⟨g, 0, none⟩) 512 512] 79)) w.heap.size (.slice oa on oc) OL) := OwC.below HO1.out k4.out
        have HB4 : Hid (Below w.heap.size w (w1.alloc (.cells #[.int .i64 xa, .slice (some ⟨g, 0, none⟩) 512 512] 79))) := HB1.out.trans (k4.out.mono HB1.out.size)
        have HR4 : Hid (Row (elC fun j => w.heap.size ≤ j) 2 (w1.alloc (.cells #[.int .i64 xa, .slice (some ⟨g, 0, none⟩) 512 512] 79)) (Pag.img ⟨xa, xc, false⟩) [.int .i64 xa, .slice (some ⟨g, 0, none⟩) 512 512]) := ⟨rfl, oneI _ _ _ _, _, _, _, rfl, X1.out.below k4.out, HI64.out⟩
        clear k4 HO1 HB1 X1 HI64
        go_wp2_with (at_builtin; refine wpList_app1At (elC fun j => w.heap.size ≤ j) 2 32 46 79 _ Tryz.underlying46 infoI rfl (by decide) (by decide) (w1.alloc (.cells #[.int .i64 xa, .slice (some ⟨g, 0, none⟩) 512 512] 79)) rfl (.tmp 25) (.tmp 33) rfl w.heap.size (.slice oa on oc) OL rfl HO4.out w1.heap.size 1 (Pag.img ⟨xa, xc, false⟩) [.int .i64 xa, .slice (some ⟨g, 0, none⟩) 512 512] rfl b4.out.whole HR4.out HZ.out HB4.out.size (fun w' x vs hg hx => elC.grown hg (HO4.out.not5 neI5) x vs hx) ?_; intro v5 w5 o5 g5 _; obtain ⟨a5, n5, c5, rfl, hn5⟩ := o5.shape; have O5 : Hid (OwS (elC fun j => w.heap.size ≤ j) 2 79 w5 w.heap.size (.slice a5 n5 c5) (imgL (l.take (k + 1)))) := (by rw [HT.out]; exact o5); have B5' : Hid (Below w.heap.size w w5) := HB4.out.grown g5 HB4.out.size (fun j hj => (HO4.out.lt j hj).1); clear o5 g5 hn5)
        go_roundw
        case rel => exact ⟨k + 1, _, _, _, by omega, by go_num, rfl, O5, B5'⟩
        case measure => simp [intOf]; omega
    · have j0 : ¬ (k : Int) < (n : Int) := by omega
      rw [List.take_of_length_le (by rw [HL.out]; omega)] at HO
      go_wp2_with fail
      go_ret
      exact ⟨oa, on, oc, rfl, HO.out.sl3 fun j hj _ => hj, HB.out⟩

end Go.Proofs.YtlenmkhmkommcaaGreat

/-
  The contract of layer 12's program's New: a sealer, its book empty. No condition.
-/
namespace Go.Proofs.YtlenmkhmkommcaaGreat
open Go.RowKit
set_option linter.unusedVariables false

def noneK {κ : Type} : κ → Option Value := fun _ => none
theorem txt_new (i : Bool) : TxtK (SeaS.new i) noneK := fun o => rfl
theorem builtBook (m1 m2 : Option Nat) : Tryz.prog.built 95 [(1, .map m1), (2, .map m2)] = some #[.int .i64 0, .map m1, .map m2] := by kernel_rfl
theorem builtSea (b : Bool) (c m1 m2 : Value) : Tryz.prog.built 100 [(0, .bool b), (2, .agg #[c, m1, m2])] = some #[.bool b, .pointer none, c, m1, m2, .bool false, .bool false, .int .u64 0, .map none] := by kernel_rfl
theorem mkP (w : World) : Sem.run Tryz.prog (Instr.makeMap 92 none) w = .ok (.map (some w.heap.size)) (w.alloc (.map #[] 0)) := rfl
theorem mkO (w : World) : Sem.run Tryz.prog (Instr.makeMap 93 none) w = .ok (.map (some w.heap.size)) (w.alloc (.map #[] 0)) := rfl
theorem mkE (w : World) : Sem.run Tryz.prog (Instr.makeMap 98 none) w = .ok (.map (some w.heap.size)) (w.alloc (.map #[] 0)) := rfl

set_option maxHeartbeats 1000000 in
theorem oNewBook (w : World) : Calls Tryz.prog 33 #[] w fun e w' => ∃ m1 m2, e = .returned (.agg #[.int .i64 0, .map (some m1), .map (some m2)]) ∧ m1 ≠ m2 ∧ w.heap.size ≤ m1 ∧ w.heap.size ≤ m2 ∧ Mks kvP okKP w' m1 noneK ∧ Mks kvO okKO w' m2 noneK ∧ Below w.heap.size w w' := by
  have h1 := mkP
  have h2 := mkO
  have h3 := builtBook
  go_enter Tryz.func33, Tryz.ntmps33
  go_wp2_with fail
  refine bodyPost_ret (results_cell_row rfl _ _ w.heap.size 95 #[.int .i64 0, .map (some (w.heap.size + 1)), .map (some (w.heap.size + 1 + 1))] (0, 0) _ rfl (((Blk.new w _ _).old _).old _) Tryz.underlying95 rfl (by kernel_rfl)) rfl ?_
  refine ⟨_, _, rfl, by omega, by omega, by omega, ?_, ?_, ?_⟩
  · have h := Mks.new kvP okKP (w.alloc (.cells #[.int .i64 0, .map (some (w.heap.size + 1)), .map (some (w.heap.size + 1 + 1))] 95))
    have e : (w.alloc (.cells #[.int .i64 0, .map (some (w.heap.size + 1)), .map (some (w.heap.size + 1 + 1))] 95)).heap.size = w.heap.size + 1 := by simp
    rw [e] at h
    exact h.same (heap_alloc_old _ _ h.lt)
  · have h := Mks.new kvO okKO ((w.alloc (.cells #[.int .i64 0, .map (some (w.heap.size + 1)), .map (some (w.heap.size + 1 + 1))] 95)).alloc (.map #[] 0))
    have e : ((w.alloc (.cells #[.int .i64 0, .map (some (w.heap.size + 1)), .map (some (w.heap.size + 1 + 1))] 95)).alloc (.map #[] 0)).heap.size = w.heap.size + 1 + 1 := by simp
    rw [e] at h
    exact h
  · exact ((below_alloc w _).trans ((below_alloc _ _).mono (below_alloc w _).size)).trans ((below_alloc _ _).mono (by simp; omega))

/-- What a new sealer is. -/
def NewS (i : Bool) (w : World) (e : Ending) (w' : World) : Prop := ∃ r U M, e = .returned (.pointer (some ⟨r, 0, none⟩)) ∧ Se U w' r (SeaS.new i) M ∧ (∀ j, U j → w.heap.size ≤ j) ∧ Below w.heap.size w w'
set_option maxHeartbeats 1000000 in
theorem oSNew (i : Bool) (w : World) (hid : i = true := by first | assumption | rfl) : Calls Tryz.prog 9 #[.bool i] w (NewS i w) := by
  have h1 := mkE
  have h3 := builtSea
  cases i with
  | true =>
    go_enter Tryz.func9, Tryz.ntmps9
    go_wp2_with fail
    refine (oNewBook w).mono ?_
    rintro e w1 ⟨m1, m2, rfl, hne, hm1, hm2, k1, k2, hb1⟩
    go_wp2_with fail
    go_ret
    have hB : Blk ((w1.alloc (.cells #[.bool true, .pointer none, .int .i64 0, .map (some m1), .map (some m2), .bool false, .bool false, .int .u64 0, .map (some (w1.heap.size + 1))] 100)).alloc (.map #[] 0)) w1.heap.size (seC (SeaS.new true) ⟨m1, m2, none, some (w1.heap.size + 1)⟩) 100 := (Blk.new w1 _ _).old _
    have h3 := Mks.new kvP okKP (w1.alloc (.cells #[.bool true, .pointer none, .int .i64 0, .map (some m1), .map (some m2), .bool false, .bool false, .int .u64 0, .map (some (w1.heap.size + 1))] 100))
    have e : (w1.alloc (.cells #[.bool true, .pointer none, .int .i64 0, .map (some m1), .map (some m2), .bool false, .bool false, .int .u64 0, .map (some (w1.heap.size + 1))] 100)).heap.size = w1.heap.size + 1 := by simp
    rw [e] at h3
    have l1 := k1.lt
    have l2 := k2.lt
    have hs := hb1.size
    have q : Below w1.heap.size w1 ((w1.alloc (.cells #[.bool true, .pointer none, .int .i64 0, .map (some m1), .map (some m2), .bool false, .bool false, .int .u64 0, .map (some (w1.heap.size + 1))] 100)).alloc (.map #[] 0)) := (below_alloc w1 _).trans ((below_alloc _ _).mono (below_alloc w1 _).size)
    generalize (w1.alloc (.cells #[.bool true, .pointer none, .int .i64 0, .map (some m1), .map (some m2), .bool false, .bool false, .int .u64 0, .map (some (w1.heap.size + 1))] 100)).alloc (.map #[] 0) = w9 at *
    have l3 := h3.lt
    refine ⟨w1.heap.size, fun j => w.heap.size ≤ j ∧ j < w9.heap.size, ⟨m1, m2, none, some (w1.heap.size + 1)⟩, rfl, ⟨fun j hj => hj.2, ⟨hs, by omega⟩, hB, ⟨hm1, by dsimp only; omega⟩, ⟨hm2, by dsimp only; omega⟩, hne, k1.same (q.block _ l1), ⟨noneK, k2.same (q.block _ l2), txt_new true⟩, fun _ => ⟨w1.heap.size + 1, rfl, ⟨by omega, l3⟩, by dsimp only; omega, by dsimp only; omega, h3⟩, fun h => (by cases h), by decide⟩, fun j hj => hj.1, hb1.trans (q.mono hs)⟩
  | false => exact Bool.noConfusion hid

end Go.Proofs.YtlenmkhmkommcaaGreat

/-
  How the disk and the sealer outlast what layer 16's statements do around them ('StaB'); plain laws: how much noting, reading and applying may grow a disk. No condition.
-/
namespace Go.Proofs.YtlenmkhmkommcaaGreat
open Go.RowKit
set_option linter.unusedVariables false

theorem applyD_fit {l : List Chg} : ∀ {D : DskS} {m : Nat}, D.fit m → m + 3 * l.length ≤ 280 → (applyD D l).1.fit (m + 3 * l.length + 3) := by
  induction l with
  | nil => intro D m h hm; rw [applyD_nil]; exact (h.a_flushed (by simp at hm; omega)).a_mono (by simp)
  | cons c l ih =>
    intro D m h hm
    rw [List.length_cons] at hm ⊢
    have hw := h.a_write c.1 c.2
    by_cases hz : (D.write c.1 c.2).2 = 0
    · rw [applyD_ok hz]
      exact (ih hw (by omega)).a_mono (by omega)
    · rw [applyD_not hz]
      exact hw.a_mono (by omega)
theorem readD_fit {ps : List Int} : ∀ {D : DskS} {m k : Nat} {acc : List Chg}, D.fit m → (readD D k acc ps).1.fit (m + 3 * ps.length) := by
  induction ps with
  | nil => intro D m k acc h; rw [readD_nil]; exact h
  | cons p ps ih =>
    intro D m k acc h
    rw [List.length_cons]
    have hw := h.a_read (k : Int)
    by_cases hz : (D.read (k : Int)).2.2 = 0
    · rw [readD_ok hz]
      exact (ih hw).a_mono (by omega)
    · rw [readD_not hz]
      exact hw.a_mono (by omega)
theorem wrtD_fit {D : DskS} {m : Nat} (h : D.fit m) (hm : m ≤ 200) (S : SeaS) (k : List UInt8) (e : Int) (l : List Chg) : (wrtD D S k e l).1.fit (m + 75) := by
  unfold wrtD
  split
  · exact h.a_mono (by omega)
  · split
    · rename_i hz
      have hl := (chkL_of hz).1
      exact (applyD_fit h (by rw [logL_length]; omega)).a_mono (by rw [logL_length]; omega)
    · exact h.a_mono (by omega)
theorem redD_fit {D : DskS} {m : Nat} (h : D.fit m) (S : SeaS) (k : List UInt8) (e n : Int) : (redD D S k e n).1.fit (m + 75) := by
  have h1 := h.a_read 0
  unfold redD
  split
  · exact h.a_mono (by omega)
  · rename_i hb
    split
    · split
      · exact h1.a_mono (by omega)
      · split
        · refine (readD_fit h1).a_mono ?_
          rw [pagL_length]
          unfold badR at hb
          omega
        · exact h1.a_mono (by omega)
    · exact h1.a_mono (by omega)
theorem redS_ideal {S : SeaS} (h : S.ideal = true) (D : DskS) (k : List UInt8) (e n : Int) : redS D S k e n = S := by
  unfold redS
  split
  · rfl
  · split
    · exact SeaS.opened_ideal h _ _ _ _
    · rfl
theorem wrtS_ideal (S : SeaS) (k : List UInt8) (e : Int) (l : List Chg) : (wrtS S k e l).ideal = S.ideal := by
  unfold wrtS
  split
  · rfl
  · split <;> rfl
theorem wrtS_count (S : SeaS) (k : List UInt8) (e : Int) (l : List Chg) : (wrtS S k e l).count + (wrtS S k e l).book.length ≤ S.count + S.book.length + 2 := by
  unfold wrtS
  split
  · omega
  · split
    · have hn : S.next ≤ S.count + 1 := by unfold SeaS.next; split <;> omega
      have : (S.seal k (nonR e.toNat) (besR e.toNat) (hedL l)).book.length = S.book.length + 1 := by simp [SeaS.seal]
      rw [this]
      show S.next + _ ≤ _
      omega
    · omega
/-- Memory of neither. -/
abbrev Out (U V : Nat → Prop) : Nat → Prop := fun j => ¬ U j ∧ ¬ V j
/-- The disk and the sealer in memory that is all newer than w0. -/
structure StaB (w0 w : World) (U F V : Nat → Prop) (d r s : Nat) (D : DskS) (S : SeaS) (M : SeaM) : Prop where
  b : Bth U F V w d r s D S M
  baseU : ∀ j, U j → w0.heap.size ≤ j
  baseV : ∀ j, V j → w0.heap.size ≤ j
  bel : Below w0.heap.size w0 w
theorem StaB.grow {w0 w w' : World} {U F V : Nat → Prop} {d r s : Nat} {D : DskS} {S : SeaS} {M : SeaM} (h : StaB w0 w U F V d r s D S M) (k : Below w.heap.size w w') : StaB w0 w' U F V d r s D S M := ⟨h.b.grow k, h.baseU, h.baseV, h.bel.trans (k.mono h.bel.size)⟩
theorem StaB.after {w0 w w' : World} {U F V U' F' : Nat → Prop} {d r s : Nat} {D D' : DskS} {S S' : SeaS} {M : SeaM} (h : StaB w0 w U F V d r s D S M) (hb : Bth U' F' V w' d r s D' S' M) (n : Next w U U') (k : Kp (fun j => F j ∨ V j) w w') : StaB w0 w' U' F' V d r s D' S' M :=
  ⟨hb, fun j hj => by
    have := h.bel.size
    rcases n j hj with h1 | h1
    · exact h.baseU j h1
    · omega, h.baseV, below_kp h.bel k h.bel.size fun j hj hf => by
    rcases hf with hf | hf
    · have := h.baseU j (h.b.dk.sub j hf)
      omega
    · have := h.baseV j hf
      omega⟩
theorem StaB.first {w0 w1 w2 w3 : World} {U F V : Nat → Prop} {d r s : Nat} {D : DskS} {i : Bool} {M : SeaM} (hb : Below w0.heap.size w0 w1) (hr : w0.heap.size ≤ r) (hd : Dk U F w2 d r D) (hU : ∀ j, U j → j = r ∨ w1.heap.size ≤ j) (hb2 : Below w1.heap.size w1 w2) (hs : Se V w3 s (SeaS.new i) M) (hV : ∀ j, V j → w2.heap.size ≤ j) (hb3 : Below w2.heap.size w2 w3) : StaB w0 w3 U F V d r s D (SeaS.new i) M := by
  have b2 := hb.trans (hb2.mono hb.size)
  refine ⟨⟨hd.grows hb3, hs, SeaS.Ok.new i, fun j hu hv => by have := hd.lt j hu; have := hV j hv; omega⟩, fun j hj => ?_, fun j hj => Nat.le_trans b2.size (hV j hj), b2.trans (hb3.mono b2.size)⟩
  have := hb.size
  rcases hU j hj with h | h <;> omega
theorem StaB.lt {w0 w : World} {U F V : Nat → Prop} {d r s : Nat} {D : DskS} {S : SeaS} {M : SeaM} (h : StaB w0 w U F V d r s D S M) : ∀ j, w.heap.size ≤ j → Out U V j := fun j hj => ⟨fun hu => by have := h.b.dk.lt j hu; omega, fun hv => by have := h.b.se.lt j hv; omega⟩
/-- What lies elsewhere stays. -/
theorem out_after {U F V U' : Nat → Prop} {w w' : World} (k : Kp (fun j => F j ∨ V j) w w') (hF : ∀ j, F j → U j) (n : Next w U U') : (∀ j, j < w.heap.size → Out U V j → w'.heap[j]? = w.heap[j]?) ∧ ∀ j, j < w.heap.size → Out U V j → Out U' V j :=
  ⟨fun j hj ho => k.block j hj fun hf => by rcases hf with hf | hf; exact ho.1 (hF j hf); exact ho.2 hf, fun j hj ho => ⟨fun hu => by rcases n j hu with h | h; exact ho.1 h; omega, ho.2⟩⟩
theorem Imgs.after {U F V U' : Nat → Prop} {w w' : World} {a : Option Addr} {n c : Nat} {l : List Chg} (h : Imgs (Out U V) w a n c l) (k : Kp (fun j => F j ∨ V j) w w') (hF : ∀ j, F j → U j) (nx : Next w U U') : Imgs (Out U' V) w' a n c l := by
  obtain ⟨h1, h2⟩ := out_after k hF nx
  have h3 : Imgs (fun j => Out U V j ∧ j < w.heap.size) w a n c l := h.mono fun j hj ho => ⟨ho, hj⟩
  exact (h3.keep k.size fun j hj ho => h1 j hj ho.1).mono fun j _ ho => h2 j ho.2 ho.1
end Go.Proofs.YtlenmkhmkommcaaGreat
