/-
  7 texts in one. No statement of the seat is proved here.
-/
import Derived.Test.YtlenmkhmkommcaaGreatG27
import Derived.Deep.Matrix
/-
  Regions that draw their order: a call as one operation, and two that may come up. No condition; no statement of the seat is proved here.
-/
namespace Go.Proofs.YtlenmkhmkommcaaGreat
open Go.RowKit
set_option linter.unusedVariables false

end Go.Proofs.YtlenmkhmkommcaaGreat

/-
  Contracts of layer 13's statements' own functions Key and Long; a text's bytes marked wherever they lie. Condition: long texts of at most 2000 bytes.
-/
namespace Go.Proofs.YtlenmkhmkommcaaGreat
open Go.RowKit
set_option linter.unusedVariables false

def KeysC (w : World) (n : Nat) (e : Ending) (w' : World) : Prop := ∃ g, e = .returned (.slice (some ⟨g, 0, none⟩) 32 32) ∧ w.heap.size ≤ g ∧ Own w' w.heap.size (.slice (some ⟨g, 0, none⟩) 32 32) (keyC n) ∧ Below w.heap.size w w'
theorem keyC_set (n : Nat) : (List.replicate 32 (0 : UInt8)).set 31 (UInt8.ofNat n) = keyC n := rfl
theorem keyC_int {n : Nat} (h : n ≤ 255) : ((UInt8.ofNat n).toNat : Int) = (n : Int) := by
  rw [UInt8.toNat_ofNat']
  omega
set_option maxHeartbeats 1000000 in
theorem lKey13 (w : World) (n : Nat) (hn : n ≤ 255) : Calls Tryz.prog 16 #[.int .u8 (n : Int)] w (KeysC w n) := by
  go_enter Tryz.func16, Tryz.ntmps16
  go_wp2_with (at_make; refine wpList_mkn _ rfl _ _ rfl w.heap.size 32 _ rfl rfl rfl (by omega) (Nat.le_refl _) ?_; intro g w1 hg hgl hown hbel
               have hlen : (List.replicate 32 (0 : UInt8)).length = 32 := by simp
               obtain ⟨v0, hcell⟩ := hown.cell hlen 31 (by omega)
               have hfr := hown.free hlen 31)
  go_ret
  have hlen : (List.replicate 32 (0 : UInt8)).length = 32 := by simp
  have ho2 := hown.set hlen 31 (UInt8.ofNat n)
  rw [keyC_set] at ho2
  have hb2 := hbel.setCell (p := ⟨g, 31, none⟩) hg (.int .u8 ((UInt8.ofNat n).toNat : Int))
  rw [keyC_int hn] at ho2 hb2
  exact ⟨g, rfl, hg, ho2, hb2⟩

end Go.Proofs.YtlenmkhmkommcaaGreat

/-
  The contract of layer 16's smoke: it answers true, and leaves all as it was. No condition.
-/
namespace Go.Proofs.YtlenmkhmkommcaaGreat
open Go.RowKit
set_option linter.unusedVariables false

def pg2 : List Pag := [⟨30, 7, false⟩, ⟨31, 8, false⟩]
def L16 : List Chg := [(30, like 7), (31, like 8)]
theorem L16_eq : imgL pg2 = L16 := by simp [imgL, pg2, L16, Pag.img]
theorem L16_ok : ∀ c ∈ L16, okI c := by
  intro c hc
  rcases List.mem_cons.1 hc with rfl | hc
  · exact ⟨by show (0 : Int) ≤ 30; omega, by show (30 : Int) < 4096; omega, like_length 7⟩
  · rcases List.mem_cons.1 hc with rfl | hc
    · exact ⟨by show (0 : Int) ≤ 31; omega, by show (31 : Int) < 4096; omega, like_length 8⟩
    · cases hc
theorem works16 : ∃ (D1 D2 D3 D4 : DskS) (S1 : SeaS), wrtD (DskS.new PowS.new 40) (SeaS.new true) (keyC 1) 5 L16 = (D1, 0) ∧ wrtS (SeaS.new true) (keyC 1) 5 L16 = S1 ∧ redD D1 S1 (keyC 1) 5 2 = (D2, L16, 0) ∧ redS D1 S1 (keyC 1) 5 2 = S1 ∧ redD D2 S1 (keyC 1) 6 2 = (D3, [], 6) ∧ redS D2 S1 (keyC 1) 6 2 = S1 ∧ applyD D3 L16 = (D4, 0) ∧ D1.fit 75 ∧ D2.fit 150 ∧ D3.fit 225 ∧ D4.fit 234 ∧ D4.loose = [] ∧ D4.look 31 = like 8 ∧ D4.n = 40 := by
  have hk := keyC_length 1
  obtain ⟨a1, a2, a3, a4, a5, a6⟩ := wrt_calm (DskS.calm.new 40) (S := SeaS.new true) hk (e := 5) (by omega) (l := L16) (by decide) L16_ok (by show (24 : Int) ≤ 40; omega)
  have f1 := wrtD_fit (DskS.fit_new (n := 40) (by omega)) (by omega) (SeaS.new true) (keyC 1) 5 L16
  have s1 := wrtS_eq (S := SeaS.new true) (k := keyC 1) (e := 5) (by omega) (l := L16) (by decide) L16_ok
  obtain ⟨D1, hD1⟩ : ∃ D1, D1 = (wrtD (DskS.new PowS.new 40) (SeaS.new true) (keyC 1) 5 L16).1 := ⟨_, rfl⟩
  obtain ⟨S1, hS1⟩ : ∃ S1, S1 = wrtS (SeaS.new true) (keyC 1) 5 L16 := ⟨_, rfl⟩
  rw [← hD1] at a2 a3 a4 a5 a6 f1
  rw [← hS1] at s1
  have hi : S1.ideal = true := by rw [hS1, wrtS_ideal]; rfl
  have hn1 : D1.n = 40 := a3
  obtain ⟨b1, b2, b3, b4, b5⟩ := red_back a2 (SeaS.Ok.new true) hk (e := 5) (by omega) (l := L16) (by decide) L16_ok (by omega) s1 a5 a6
  have f2 := redD_fit f1 S1 (keyC 1) 5 (L16.length : Int)
  obtain ⟨D2, hD2⟩ : ∃ D2, D2 = (redD D1 S1 (keyC 1) 5 (L16.length : Int)).1 := ⟨_, rfl⟩
  rw [← hD2] at b2 b3 b4 b5 f2
  obtain ⟨c1, c2, c3, c4, c5⟩ := red_tells b2 (S := S1) (k := keyC 1) (k' := keyC 1) (e := 5) (e' := 6) (n := 2) (l := L16) (by omega) (by omega) (by omega) (by omega) (by decide) (by omega) (by omega) s1 (by rw [b5]; exact a5) (by omega)
  have f3 := redD_fit f2 S1 (keyC 1) 6 2
  obtain ⟨D3, hD3⟩ : ∃ D3, D3 = (redD D2 S1 (keyC 1) 6 2).1 := ⟨_, rfl⟩
  rw [← hD3] at c2 c3 c4 c5 f3
  have hn3 : D3.n = 40 := by rw [c3, b3, hn1]
  obtain ⟨e1, e2, e3, e4, e5⟩ := applyD_calm c2 (l := L16) fun c hc => by
    rw [hn3]
    rcases List.mem_cons.1 hc with rfl | hc
    · exact ⟨by show (0 : Int) ≤ 30; omega, by show (30 : Int) < 40; omega, like_length 7⟩
    · rcases List.mem_cons.1 hc with rfl | hc
      · exact ⟨by show (0 : Int) ≤ 31; omega, by show (31 : Int) < 40; omega, like_length 8⟩
      · cases hc
  have f4 : (applyD D3 L16).1.fit 234 := (applyD_fit f3 (by decide)).a_mono (by decide)
  refine ⟨D1, D2, D3, (applyD D3 L16).1, S1, Prod.ext hD1.symm a1, hS1.symm, Prod.ext hD2.symm b1, redS_ideal hi _ _ _ _, Prod.ext hD3.symm c1, redS_ideal hi _ _ _ _, Prod.ext rfl e1, f1, f2, f3, f4, e4, ?_, by rw [e3, hn3]⟩
  rw [e5]
  exact ovr_last (l := [(30, like 7)]) (c := (31, like 8)) (m := []) fun x hx => by cases hx
theorem pags2 (w : World) : Pags (w.alloc (.cells #[.int .i64 30, .int .u8 7, .bool false, .int .i64 31, .int .u8 8, .bool false] 77)) (some ⟨w.heap.size, 0, none⟩) 2 2 pg2 := by
  have hb : Blk (w.alloc (.cells #[.int .i64 30, .int .u8 7, .bool false, .int .i64 31, .int .u8 8, .bool false] 77)) w.heap.size [.int .i64 30, .int .u8 7, .bool false, .int .i64 31, .int .u8 8, .bool false] 77 := Blk.newAt w _ _ w.heap.size rfl _ rfl
  refine ⟨[[.int .i64 30, .int .u8 7, .bool false], [.int .i64 31, .int .u8 8, .bool false]], ⟨⟨rfl, ?_, rfl, by constructor <;> (show _ ≤ _) <;> decide⟩, ⟨rfl, ?_, rfl, by constructor <;> (show _ ≤ _) <;> decide⟩, trivial⟩, rfl, Nat.le_refl _, by unfold maxLen; omega, fun e => by simp at e, fun _ => ⟨w.heap.size, 0, rfl, hb.lt, hb.lt, hb.whole⟩⟩
  · intro v hv
    simp at hv
    rcases hv with rfl | rfl | rfl <;> rfl
  · intro v hv
    simp at hv
    rcases hv with rfl | rfl | rfl <;> rfl

set_option maxRecDepth 100000 in
set_option maxHeartbeats 4000000 in
theorem lWorks16 (w : World) : Calls Tryz.prog 6 #[] w fun e w' => e = .returned (.bool true) ∧ Below w.heap.size w w' := by
  obtain ⟨D1, D2, D3, D4, S1, q1, q2, q3, q4, q5, q6, q7, f1, f2, f3, f4, hl, h31, hn⟩ := works16
  have CK : Hid (∀ u, Calls Tryz.prog 16 #[.int .u8 1] u (KeysC u 1)) := fun u => lKey13 u 1 (by omega)
  have CW : Hid (∀ (u : World) (U F V : Nat → Prop) (d r s : Nat) (M : SeaM) (ak a : Option Addr) (ck n c : Nat), Bth U F V u d r s (DskS.new PowS.new 40) (SeaS.new true) M → BA (fun j => ¬ V j) u ak 32 ck (keyC 1) → Imgs (Out U V) u a n c L16 → Calls Tryz.prog 17 #[.pointer (some ⟨d, 0, none⟩), .pointer (some ⟨s, 0, none⟩), .slice ak 32 ck, .int .i64 5, .slice a n c] u (WrtP U F V u d r s D1 S1 M 0)) := fun u U F V d r s M ak a ck n c h1 h2 h3 => by
    have := oWrite16 u h1 (DskS.fit_new (n := 40) (by omega)) (by omega) (by decide) h2 5 (by omega) h3 fun j hj => hj
    rw [q1, q2] at this
    exact this
  have CR1 : Hid (∀ (u : World) (U F V : Nat → Prop) (d r s : Nat) (M : SeaM) (ak : Option Addr) (ck : Nat), Bth U F V u d r s D1 S1 M → BA (Out U V) u ak 32 ck (keyC 1) → Calls Tryz.prog 24 #[.pointer (some ⟨d, 0, none⟩), .pointer (some ⟨s, 0, none⟩), .slice ak 32 ck, .int .i64 5, .int .i64 2] u (RedP U F V u d r s (D2, L16, 0) S1 M)) := fun u U F V d r s M ak ck h1 h2 => by
    have := oRead16 u h1 f1 (by omega) h2 5 2 (by omega) (by constructor <;> omega)
    rw [q3, q4] at this
    exact this
  have CR2 : Hid (∀ (u : World) (U F V : Nat → Prop) (d r s : Nat) (M : SeaM) (ak : Option Addr) (ck : Nat), Bth U F V u d r s D2 S1 M → BA (Out U V) u ak 32 ck (keyC 1) → Calls Tryz.prog 24 #[.pointer (some ⟨d, 0, none⟩), .pointer (some ⟨s, 0, none⟩), .slice ak 32 ck, .int .i64 6, .int .i64 2] u (RedP U F V u d r s (D3, [], 6) S1 M)) := fun u U F V d r s M ak ck h1 h2 => by
    have := oRead16 u h1 f2 (by omega) h2 6 2 (by omega) (by constructor <;> omega)
    rw [q5, q6] at this
    exact this
  have CA : Hid (∀ (u : World) (U F V : Nat → Prop) (d r : Nat) (a : Option Addr) (n c : Nat), Dk U F u d r D3 → Imgs (Out U V) u a n c L16 → Calls Tryz.prog 27 #[.pointer (some ⟨d, 0, none⟩), .slice a n c] u fun e w' => e = .returned (.int .i64 0) ∧ Dks U F u d r D4 w') := fun u U F V d r a n c h1 h2 => by
    have h3 : n = 2 := by rw [← Sl.len h2]; rfl
    have := oApply16 u h1 f3 h2 (fun j hj hF => hj.1 (h1.sub j hF)) (by omega)
    rw [q7] at this
    exact this
  have CL : Hid (∀ (u : World) (U F : Nat → Prop) (d r : Nat), Dk U F u d r D4 → Calls Tryz.prog 30 #[.pointer (some ⟨d, 0, none⟩), .int .i64 31] u fun e w' => ∃ p c, e = .returned (.slice p 512 c) ∧ Bs w' p 512 c (like 8) ∧ Below u.heap.size u w') := fun u U F d r h => (oDLook u h f4 (by omega) 31 (by omega)).mono (by
    rintro e w' ⟨p, m, c, rfl, hb, hB⟩
    rw [h31] at hb
    have : m = 512 := by rw [← hb.1.len]; exact like_length 8
    subst this
    exact ⟨p, c, rfl, hb.1, hB⟩)
  have CO : Hid (∀ (u : World) (U F : Nat → Prop) (d r : Nat), Dk U F u d r D4 → Calls Tryz.prog 32 #[.pointer (some ⟨d, 0, none⟩)] u fun e w' => e = .returned (.int .i64 0) ∧ Below u.heap.size u w') := fun u U F d r h => by
    have := oDLoose u h
    rw [hl] at this
    exact this
  have HLB : Hid ((like 8).getD 9 0 = 8) := like_get (by omega)
  clear q1 q2 q3 q4 q5 q6 q7 f1 f2 f3 f4 hl h31 hn
  go_enter Tryz.func6, Tryz.ntmps6
  go_wp2_with fail
  refine (oPNew w).mono ?_
  rintro e w1 ⟨r, rfl, hr, hp, hb1⟩
  go_wp2_with fail
  refine (oDNew w1 hp 40 (by omega)).mono ?_
  rintro e w2 ⟨d, U, F, rfl, hd, hU, hb2⟩
  have Q1 : Hid (Below w.heap.size w w1) := hb1
  have Q2 : Hid (Below w1.heap.size w1 w2) := hb2
  have HD : Hid (Dk U F w2 d r (DskS.new PowS.new 40)) := hd
  have HU : Hid (∀ j, U j → j = r ∨ w1.heap.size ≤ j) := hU
  clear hd hU hb2 hb1 hp
  go_wp2_with fail
  refine (oSNew true w2).mono ?_
  rintro e w3 ⟨s, V, M, rfl, hs3, hV3, hb3⟩
  have S3 : Hid (StaB w w3 U F V d r s (DskS.new PowS.new 40) (SeaS.new true) M) := StaB.first Q1.out hr HD.out HU.out Q2.out hs3 hV3 hb3
  clear hs3 hV3 hb3 HD HU Q1 Q2 hr
  have X4 : Hid (Pags (w3.alloc (.cells #[.int .i64 30, .int .u8 7, .bool false, .int .i64 31, .int .u8 8, .bool false] 77)) (some ⟨w3.heap.size, 0, none⟩) 2 2 pg2) := pags2 w3
  have b4 : Hid (Below w3.heap.size w3 (w3.alloc (.cells #[.int .i64 30, .int .u8 7, .bool false, .int .i64 31, .int .u8 8, .bool false] 77))) := below_alloc _ _
  go_wp2_with fail
  generalize w3.alloc (.cells #[.int .i64 30, .int .u8 7, .bool false, .int .i64 31, .int .u8 8, .bool false] 77) = w4 at *
  refine (lImages w4 X4.out (by omega)).mono ?_
  rintro e w5 ⟨a5, n5, c5, rfl, hI5, hb5⟩
  rw [L16_eq] at hI5
  have ln5 : n5 = 2 := by rw [← Sl.len hI5]; rfl
  subst ln5
  have S4 : Hid (StaB w w4 U F V d r s (DskS.new PowS.new 40) (SeaS.new true) M) := S3.out.grow b4.out
  have S5 : Hid (StaB w w5 U F V d r s (DskS.new PowS.new 40) (SeaS.new true) M) := S4.out.grow hb5
  have I5 : Hid (Imgs (Out U V) w5 a5 2 c5 L16) := hI5.mono fun j _ hj => S4.out.lt j hj
  clear S3 b4 X4 S4 hI5 hb5
  go_wp2_with fail
  refine (CK.out w5).mono ?_
  rintro e w6 ⟨g6, rfl, _, o6, hb6⟩
  have S6 : Hid (StaB w w6 U F V d r s (DskS.new PowS.new 40) (SeaS.new true) M) := S5.out.grow hb6
  have I6 : Hid (Imgs (Out U V) w6 a5 2 c5 L16) := I5.out.grow hb6
  have K6 : Hid (BA (fun j => ¬ V j) w6 (some ⟨g6, 0, none⟩) 32 32 (keyC 1)) := o6.ba.mono fun j _ hj => (S5.out.lt j hj).2
  clear S5 I5 o6 hb6
  go_wp2_with fail
  refine (CW.out w6 U F V d r s M _ _ _ _ _ S6.out.b K6.out I6.out).mono ?_
  rintro e w7 ⟨U7, F7, rfl, hB7, nU7, nF7, hk7⟩
  have S7 : Hid (StaB w w7 U7 F7 V d r s D1 S1 M) := S6.out.after hB7 nU7 hk7
  have I7 : Hid (Imgs (Out U7 V) w7 a5 2 c5 L16) := I6.out.after hk7 S6.out.b.dk.sub nU7
  clear S6 I6 K6 hB7 nU7 nF7 hk7 CW
  go_wp2_with fail
  refine (CK.out w7).mono ?_
  rintro e w8 ⟨g8, rfl, _, o8, hb8⟩
  have S8 : Hid (StaB w w8 U7 F7 V d r s D1 S1 M) := S7.out.grow hb8
  have I8 : Hid (Imgs (Out U7 V) w8 a5 2 c5 L16) := I7.out.grow hb8
  have K8 : Hid (BA (Out U7 V) w8 (some ⟨g8, 0, none⟩) 32 32 (keyC 1)) := o8.ba.mono fun j _ hj => S7.out.lt j hj
  clear S7 I7 o8 hb8
  go_wp2_with fail
  refine (CR1.out w8 U7 F7 V d r s M _ _ S8.out.b K8.out).mono ?_
  rintro e w9 ⟨a9, n9, c9, U9, F9, rfl, hB9, nU9, nF9, hk9, hI9⟩
  have ln9 : n9 = 2 := by rw [← Sl.len hI9]; rfl
  subst ln9
  have S9 : Hid (StaB w w9 U9 F9 V d r s D2 S1 M) := S8.out.after hB9 nU9 hk9
  have I9 : Hid (Imgs (Out U9 V) w9 a5 2 c5 L16) := I8.out.after hk9 S8.out.b.dk.sub nU9
  have J9 : Hid (Imgs (Out U9 V) w9 a9 2 c9 L16) := hI9.mono fun j _ hj => ⟨hj.1, (S8.out.lt j hj.2).2⟩
  clear S8 I8 K8 hB9 nU9 nF9 hk9 hI9 CR1
  go_wp2_with fail
  refine (CK.out w9).mono ?_
  rintro e w10 ⟨g10, rfl, _, o10, hb10⟩
  have S10 : Hid (StaB w w10 U9 F9 V d r s D2 S1 M) := S9.out.grow hb10
  have I10 : Hid (Imgs (Out U9 V) w10 a5 2 c5 L16) := I9.out.grow hb10
  have J10 : Hid (Imgs (Out U9 V) w10 a9 2 c9 L16) := J9.out.grow hb10
  have K10 : Hid (BA (Out U9 V) w10 (some ⟨g10, 0, none⟩) 32 32 (keyC 1)) := o10.ba.mono fun j _ hj => S9.out.lt j hj
  clear S9 I9 J9 o10 hb10
  go_wp2_with fail
  refine (CR2.out w10 U9 F9 V d r s M _ _ S10.out.b K10.out).mono ?_
  rintro e w11 ⟨a11, n11, c11, U11, F11, rfl, hB11, nU11, nF11, hk11, hI11⟩
  have S11 : Hid (StaB w w11 U11 F11 V d r s D3 S1 M) := S10.out.after hB11 nU11 hk11
  have I11 : Hid (Imgs (Out U11 V) w11 a5 2 c5 L16) := I10.out.after hk11 S10.out.b.dk.sub nU11
  have J11 : Hid (Imgs (Out U11 V) w11 a9 2 c9 L16) := J10.out.after hk11 S10.out.b.dk.sub nU11
  clear S10 I10 J10 K10 hB11 nU11 nF11 hk11 hI11 CR2 CK
  go_wp2_with fail
  refine (CA.out w11 U11 F11 V d r _ _ _ S11.out.b.dk J11.out).mono ?_
  rintro e w12 ⟨rfl, U12, F12, hd12, nU12, nF12, hk12⟩
  have S12 : Hid (StaB w w12 U12 F12 V d r s D4 S1 M) := S11.out.after (S11.out.b.disk hd12 hk12 nU12) nU12 (hk12.mono fun j _ hj => Or.inl hj)
  have I12 : Hid (Imgs (Out U12 V) w12 a5 2 c5 L16) := I11.out.after (hk12.mono fun j _ hj => Or.inl hj) S11.out.b.dk.sub nU12
  have J12 : Hid (Imgs (Out U12 V) w12 a9 2 c9 L16) := J11.out.after (hk12.mono fun j _ hj => Or.inl hj) S11.out.b.dk.sub nU12
  clear S11 I11 J11 hd12 nU12 nF12 hk12 CA
  go_wp2_with fail
  refine (rSame16 w12 I12.out J12.out (by omega) (by omega)).mono ?_
  rintro e w13 ⟨rfl, hb13⟩
  rw [decide_eq_true (rfl : L16 = L16)]
  have S13 : Hid (StaB w w13 U12 F12 V d r s D4 S1 M) := S12.out.grow hb13
  clear S12 I12 J12 hb13
  go_wp2_with fail
  refine (CL.out w13 _ _ d r S13.out.b.dk).mono ?_
  rintro e w14 ⟨p, c, rfl, hbs, hb14⟩
  have S14 : Hid (StaB w w14 U12 F12 V d r s D4 S1 M) := S13.out.grow hb14
  obtain ⟨b, o, ha, hlb, hcell⟩ := hbs.at (by omega)
  have c9' : w14.cell? ⟨b, o + 9, none⟩ = some (.int .u8 8) := by
    rw [hcell 9 (by omega)]
    have : bt (like 8) 9 = 8 := by unfold bt; rw [HLB.out]; rfl
    rw [this]
  subst ha
  clear S13 hcell hbs hb14 CL

  go_wp2_with fail
  refine (CO.out w14 _ _ d r S14.out.b.dk).mono ?_
  rintro e w15 ⟨rfl, hb15⟩
  have FIN : Hid (Below w.heap.size w w15) := (S14.out.grow hb15).bel
  clear S14 hb15 CO
  go_wp2_with fail
  go_ret
  exact ⟨rfl, FIN.out⟩

end Go.Proofs.YtlenmkhmkommcaaGreat

/-
  Plain laws of layer 16's statements: pages that may be noted, what of them is read. No condition.
-/
namespace Go.Proofs.YtlenmkhmkommcaaGreat
open Go.RowKit
set_option linter.unusedVariables false

/-- A page that a statement plays: from lo to 59. -/
abbrev Pag.good (lo : Int) (x : Pag) : Prop := x.bad = false ∧ lo ≤ x.at_ ∧ x.at_ ≤ 59
theorem Pag.good.ok {lo : Int} (hlo : 0 ≤ lo) {x : Pag} (h : x.good lo) : okI x.img := by
  obtain ⟨h1, h2, h3⟩ := h
  unfold Pag.img
  rw [h1]
  exact ⟨by show 0 ≤ x.at_; omega, by show x.at_ < 4096; omega, like_length _⟩
theorem img_ok {lo : Int} (hlo : 0 ≤ lo) {l : List Pag} (h : ∀ x ∈ l, x.good lo) : ∀ c ∈ imgL l, okI c := fun c hc => by
  obtain ⟨x, hx, rfl⟩ := List.mem_map.1 hc
  exact (h x hx).ok hlo
theorem good_step {lo : Int} {l : List Pag} {k : Nat} {x : Pag} (hx : l[k]? = some x) (h : ∀ y ∈ l.take k, y.good lo) (hc : x.good lo) : ∀ y ∈ l.take (k + 1), y.good lo := fun y ho => by
  rw [List.take_add_one, hx] at ho
  rcases List.mem_append.1 ho with ho | ho
  · exact h y ho
  · simp at ho
    subst ho
    exact hc
/-- What RedoTells reads. -/
theorem tells16 {l : List Pag} (h1 : l.length ≤ 23) (h : ∀ x ∈ l, x.good 0) (E Y N K : Nat) (hE : E ≤ 65535) (hY : Y ≤ 65535) (hN : N ≤ 23) (hK : K ≤ 1) :
    ∃ (D1 D2 : DskS) (S1 : SeaS) (LL : List Chg) (z : Int), wrtD (DskS.new PowS.new 60) (SeaS.new true) (keyC 0) (E : Int) (imgL l) = (D1, 0) ∧ wrtS (SeaS.new true) (keyC 0) (E : Int) (imgL l) = S1 ∧ D1.fit 75 ∧ redD D1 S1 (keyC K) (Y : Int) (N : Int) = (D2, LL, z) ∧ ((E = Y ∧ N = l.length ∧ K = 0) → z = 0 ∧ LL.length = N) ∧ (¬ (E = Y ∧ N = l.length ∧ K = 0) → z = 6 ∧ LL.length = 0) := by
  have hl : (imgL l).length ≤ 23 := by rw [imgL_length]; exact h1
  have hok := img_ok (by omega) h
  obtain ⟨a1, a2, a3, a4, a5, a6⟩ := wrt_calm (DskS.calm.new 60) (S := SeaS.new true) (keyC_length 0) (e := (E : Int)) (by omega) (l := imgL l) hl hok (by show (24 : Int) ≤ 60; omega)
  have f1 := wrtD_fit (DskS.fit_new (n := 60) (by omega)) (by omega) (SeaS.new true) (keyC 0) (E : Int) (imgL l)
  have s1 := wrtS_eq (S := SeaS.new true) (k := keyC 0) (e := (E : Int)) (by omega) (l := imgL l) hl hok
  obtain ⟨D1, hD1⟩ : ∃ D1, D1 = (wrtD (DskS.new PowS.new 60) (SeaS.new true) (keyC 0) (E : Int) (imgL l)).1 := ⟨_, rfl⟩
  obtain ⟨S1, hS1⟩ : ∃ S1, S1 = wrtS (SeaS.new true) (keyC 0) (E : Int) (imgL l) := ⟨_, rfl⟩
  rw [← hD1] at a2 a3 a4 a5 a6 f1
  rw [← hS1] at s1
  have hn1 : D1.n = 60 := a3
  by_cases hh : E = Y ∧ N = l.length ∧ K = 0
  · obtain ⟨e1, e2, e3⟩ := hh
    subst e1 e3
    obtain ⟨b1, _⟩ := red_back a2 (SeaS.Ok.new true) (keyC_length 0) (e := (E : Int)) (by omega) (l := imgL l) hl hok (by omega) s1 a5 a6
    rw [imgL_length, ← e2] at b1
    refine ⟨D1, (redD D1 S1 (keyC 0) (E : Int) (N : Int)).1, S1, imgL l, 0, Prod.ext hD1.symm a1, hS1.symm, f1, Prod.ext rfl b1, fun _ => ⟨rfl, by rw [imgL_length, e2]⟩, fun hn => absurd ⟨rfl, e2, rfl⟩ hn⟩
  · obtain ⟨c1, _⟩ := red_tells a2 (S := S1) (k := keyC 0) (k' := keyC K) (e := (E : Int)) (e' := (Y : Int)) (n := (N : Int)) (l := imgL l) (by omega) (by omega) (by omega) (by omega) hl (by omega) (by omega) s1 a5 (fun he => by
      obtain ⟨e1, e2, e3⟩ := he
      rw [imgL_length] at e2
      exact hh ⟨by omega, by omega, ((keyC_inj (by omega) (by omega)).1 e3).symm⟩)
    exact ⟨D1, (redD D1 S1 (keyC K) (Y : Int) (N : Int)).1, S1, [], 6, Prod.ext hD1.symm a1, hS1.symm, f1, Prod.ext rfl c1, fun hy => absurd hy hh, fun _ => ⟨rfl, rfl⟩⟩

end Go.Proofs.YtlenmkhmkommcaaGreat

/-
  How an argument that is a slice of slices of bytes is opened into plain lists. No condition; no statement of the seat is proved here.
-/
namespace Go.Proofs.YtlenmkhmkommcaaGreat
open Go.RowKit Go.ChangeShapes Go.WideShapes Go.ChangeAt

theorem Bss.of_trod {H : Type} {enc : TypeId × Value → H} {W : World} {base : Nat} {held : Bool} {fuel : Nat} {a : Option Addr} {n c : Nat} {x : DataW H × List MemPlace}
    (h : DataW.trod enc Tryz.prog W base (fun _ => true) held fuel 147 [.slice a n c] = some x) : ∃ ls, Bss W a n c ls := by
  rcases Deep.open_int_rows Tryz.underlying147 Tryz.underlying26 Tryz.underlying5 (by kernel_rfl) (by kernel_rfl) h with ⟨hcs, _⟩ | ⟨y, len, cap, A, L, C, Z, hcs, _, hl, hm, _, hrow⟩
  · simp at hcs
    obtain ⟨rfl, rfl, rfl⟩ := hcs
    exact ⟨[], rfl, Nat.le_refl _, Nat.zero_le _, fun i hi => by omega⟩
  · simp at hcs
    obtain ⟨rfl, rfl, rfl⟩ := hcs
    have hex : ∀ r, r < n → ∃ l, Bs W (A r) (L r) (C r) l := by
      intro r hr
      obtain ⟨_, h1, h2, h3, h4, h5, h6⟩ := hrow r (by omega)
      cases hA : A r with
      | none =>
        have := h5 hA
        exact Bs.of_row (zs := []) (Or.inl ⟨rfl, by omega, this, rfl⟩)
      | some x =>
        exact Bs.of_row (zs := Z r) (Or.inr ⟨x, rfl, h1, h2, h3, fun i hi => (h6 x hA).2 i (by omega), h4⟩)
    obtain ⟨f, hf⟩ := Deep.choose_lt hex
    refine ⟨(List.range n).map f, by simp, hl, hm, fun i hi => ?_⟩
    obtain ⟨b, o, s⟩ := y
    have hs : s = none := by
      have h0 := (hrow 0 (by omega)).1
      simpa [Addr.add] using World.cell?_spot h0
    subst hs
    refine ⟨b, o, A i, L i, C i, rfl, ?_, ?_⟩
    · have := (hrow i (by omega)).1
      rw [add_none] at this
      exact this
    · have e : ((List.range n).map f).getD i [] = f i := by simp [List.getD_eq_getElem?_getD, hi]
      rw [e]
      exact hf i hi
end Go.Proofs.YtlenmkhmkommcaaGreat

/-
  Bools and pokes that were handed in. No condition; no statement of the seat is proved here.
-/
namespace Go.Proofs.YtlenmkhmkommcaaGreat
open Go.RowKit

def BoW (w : World) (a : Option Addr) (n c : Nat) (l : List Bool) : Prop := BoA (fun j => j < w.heap.size) w a n c l
def Pokes (w : World) (a : Option Addr) (n c : Nat) (l : List Pok) : Prop := Sl (elP fun j => j < w.heap.size) 5 (fun j => j < w.heap.size) w a n c l
theorem bow_of_trod {H : Type} {enc : TypeId × Value → H} {W : World} {base : Nat} {held : Bool} {fuel : Nat} {a : Option Addr} {n c : Nat} {x : DataW H × List MemPlace} (h : DataW.trod enc Tryz.prog W base (fun _ => true) held fuel 23 [.slice a n c] = some x) : ∃ l, BoW W a n c l := BoA.of_trod (fun _ h => h) h
end Go.Proofs.YtlenmkhmkommcaaGreat

/-
  Plain laws of RedoBack: what was noted is read, and stands where it belongs. No condition.
-/
namespace Go.Proofs.YtlenmkhmkommcaaGreat
open Go.RowKit
set_option linter.unusedVariables false

/-- No page from the i-th on, up to the k-th, is that of the i-th. -/
def last16 (L : List Chg) (i k : Nat) : Bool := decide (∀ j, j < k → i < j → ¬ (L.getD j (0, [])).1 = (L.getD i (0, [])).1)
theorem last16_start (L : List Chg) (i : Nat) : last16 L i (i + 1) = true := decide_eq_true fun j h1 h2 => by omega
theorem last16_step {L : List Chg} {i k : Nat} {x y : Chg} (hx : L[k]? = some x) (hy : L[i]? = some y) (hk : i < k) : last16 L i (k + 1) = (last16 L i k && (x.1 != y.1)) := by
  have ex : (L.getD k (0, [])) = x := by rw [List.getD_eq_getElem?_getD, hx]; rfl
  have ey : (L.getD i (0, [])) = y := by rw [List.getD_eq_getElem?_getD, hy]; rfl
  unfold last16
  rw [ey]
  by_cases h : ∀ j, j < k → i < j → ¬ (L.getD j (0, [])).1 = y.1
  · rw [decide_eq_true h, Bool.true_and]
    by_cases e : x.1 = y.1
    · rw [decide_eq_false fun hh => hh k (by omega) hk (by rw [ex]; exact e), e]
      simp
    · rw [decide_eq_true fun j h1 h2 => ?_]
      · simp [e]
      · by_cases ej : j = k
        · rw [ej, ex]
          exact e
        · exact h j (by omega) h2
  · rw [decide_eq_false h, Bool.false_and]
    exact decide_eq_false fun hh => h fun j h1 h2 => hh j (by omega) h2
theorem ovr_at {f : Int → List UInt8} {L : List Chg} {i : Nat} {y : Chg} (hy : L[i]? = some y) (h : last16 L i L.length = true) : ovr f L y.1 = y.2 := by
  obtain ⟨hi, e⟩ := List.getElem?_eq_some_iff.1 hy
  have h1 := of_decide_eq_true h
  have ey : (L.getD i (0, [])) = y := by rw [List.getD_eq_getElem?_getD, hy]; rfl
  rw [ey] at h1
  have e0 : L = L.take i ++ y :: L.drop (i + 1) := by rw [← e, ← List.drop_eq_getElem_cons hi, List.take_append_drop]
  rw [e0]
  refine ovr_last fun x hx => ?_
  obtain ⟨j, hj, rfl⟩ := List.mem_iff_getElem.1 hx
  rw [List.length_drop] at hj
  have := h1 (i + 1 + j) (by omega) (by omega)
  rw [List.getD_eq_getElem?_getD, List.getElem?_eq_getElem (by omega)] at this
  rw [List.getElem_drop]
  exact this
theorem back16 (i : Bool) {l : List Pag} (h1 : l.length ≤ 23) (h : ∀ x ∈ l, x.good 24) (E : Nat) (hE : E ≤ 4294967295) (b : List Bool) :
    ∃ (D1 D3 D4 : DskS) (S1 : SeaS), wrtD (DskS.new PowS.new 60) (SeaS.new i) (keyC 2) (E : Int) (imgL l) = (D1, 0) ∧ wrtS (SeaS.new i) (keyC 2) (E : Int) (imgL l) = S1 ∧ D1.fit 75 ∧ (D1.crash b).fit 78 ∧ redD (D1.crash b) S1 (keyC 2) (E : Int) (l.length : Int) = (D3, imgL l, 0) ∧ D3.fit 153 ∧ applyD D3 (imgL l) = (D4, 0) ∧ D4.fit 225 ∧ D4.n = 60 ∧ ∀ (j : Nat) (y : Chg), (imgL l)[j]? = some y → last16 (imgL l) j l.length = true → D4.look y.1 = y.2 := by
  have hl : (imgL l).length ≤ 23 := by rw [imgL_length]; exact h1
  have hok := img_ok (by omega) h
  obtain ⟨a1, a2, a3, a4, a5, a6⟩ := wrt_calm (DskS.calm.new 60) (S := SeaS.new i) (keyC_length 2) (e := (E : Int)) (by omega) (l := imgL l) hl hok (by show (24 : Int) ≤ 60; omega)
  have f1 := wrtD_fit (DskS.fit_new (n := 60) (by omega)) (by omega) (SeaS.new i) (keyC 2) (E : Int) (imgL l)
  have s1 := wrtS_eq (S := SeaS.new i) (k := keyC 2) (e := (E : Int)) (by omega) (l := imgL l) hl hok
  obtain ⟨D1, hD1⟩ : ∃ D1, D1 = (wrtD (DskS.new PowS.new 60) (SeaS.new i) (keyC 2) (E : Int) (imgL l)).1 := ⟨_, rfl⟩
  obtain ⟨S1, hS1⟩ : ∃ S1, S1 = wrtS (SeaS.new i) (keyC 2) (E : Int) (imgL l) := ⟨_, rfl⟩
  rw [← hD1] at a2 a3 a4 a5 a6 f1
  rw [← hS1] at s1
  have hn1 : D1.n = 60 := a3
  obtain ⟨c1, c2, c3, c4⟩ := a2.crash a4 b
  have f2 : (D1.crash b).fit 78 := f1.a_crash (by omega) b
  obtain ⟨D2, hD2⟩ : ∃ D2, D2 = D1.crash b := ⟨_, rfl⟩
  rw [← hD2] at c1 c2 c3 c4 f2
  obtain ⟨b1, b2, b3, b4, b5⟩ := red_back c1 (SeaS.Ok.new i) (keyC_length 2) (e := (E : Int)) (by omega) (l := imgL l) hl hok (by rw [c2, hn1]; omega) s1 (by rw [c4]; exact a5) (fun j c hc => by rw [c4]; exact a6 j c hc)
  have f3 := redD_fit f2 S1 (keyC 2) (E : Int) ((imgL l).length : Int)
  obtain ⟨D3, hD3⟩ : ∃ D3, D3 = (redD D2 S1 (keyC 2) (E : Int) ((imgL l).length : Int)).1 := ⟨_, rfl⟩
  rw [← hD3] at b2 b3 b4 b5 f3
  have hn3 : D3.n = 60 := by rw [b3, c2, hn1]
  obtain ⟨e1, e2, e3, e4, e5⟩ := applyD_calm b2 (l := imgL l) fun c hc => by
    rw [hn3]
    obtain ⟨x, hx, rfl⟩ := List.mem_map.1 hc
    obtain ⟨g1, g2, g3⟩ := h x hx
    have := ((h x hx).ok (by omega)).2.2
    exact ⟨by show 0 ≤ x.at_; omega, by show x.at_ < 60; omega, this⟩
  have f4 : (applyD D3 (imgL l)).1.fit 225 := (applyD_fit f3 (by omega)).a_mono (by omega)
  have hL : ((imgL l).length : Int) = (l.length : Int) := by rw [imgL_length]
  rw [hL] at hD3 b1
  refine ⟨D1, D3, (applyD D3 (imgL l)).1, S1, Prod.ext hD1.symm a1, hS1.symm, f1, hD2 ▸ f2, hD2 ▸ Prod.ext hD3.symm b1, f3, Prod.ext rfl e1, f4, by rw [e3, hn3], fun j y hy hj => ?_⟩
  rw [e5]
  exact ovr_at hy (by rw [imgL_length]; exact hj)
theorem StaB.bo {w0 w : World} {U F V : Nat → Prop} {d r s : Nat} {D : DskS} {S : SeaS} {M : SeaM} (h : StaB w0 w U F V d r s D S M) {a : Option Addr} {n c : Nat} {l : List Bool} (hb : BoW w0 a n c l) : BoA (fun j => ¬ F j) w a n c l := by
  have h2 := BoA.keep hb h.bel.size fun j hj _ => h.bel.block j hj
  exact ⟨h2.1, fun hn => by
    obtain ⟨y, e, ha, hy⟩ := h2.2 hn
    exact ⟨y, e, fun hF => by have := h.baseU _ (h.b.dk.sub _ hF); have : y.block < w0.heap.size := ha; omega, hy⟩⟩
/-- The disk alone was at work. -/
theorem StaB.disk {w0 w w' : World} {U F V U' F' : Nat → Prop} {d r s : Nat} {D D' : DskS} {S : SeaS} {M : SeaM} (h : StaB w0 w U F V d r s D S M) (hd : Dk U' F' w' d r D') (n : Next w U U') (k : Kp F w w') : StaB w0 w' U' F' V d r s D' S M :=
  h.after (h.b.disk hd k n) n (k.mono fun j _ hj => Or.inl hj)

end Go.Proofs.YtlenmkhmkommcaaGreat
