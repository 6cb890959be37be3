/-
  8 texts in one. No statement of the seat is proved here.
-/
import Derived.Test.YtlenmkhmkommcaaGreatJ26

/-
  Regions that draw their order: a call as one operation, and two that may come up. No condition; no statement of the seat is proved here.
-/
namespace Go.Proofs.YtlenmkhmkommcaaGreat
open Go.RowKit
set_option linter.unusedVariables false

/-- A call, wherever it comes. -/
theorem opCallW {ops : Array Oper} {Q : Exit → Act → World → Prop} (i : Nat) (d : Option Tmp) (f : FuncId) (args : Array Operand) (tys : Array TypeId) (vs : Array Value) {oi : Oper} {K : Act → World → Prop} {a : Act} {w : World} (hi : ops[i]? = some oi) (hd : oi.dst = d)
    (ho : oi.op = .call { callee := .value (.func f), args := args, argTypes := tys }) (hw : Region.wanted oi (yielded ops a.tmps) = true) (hv : (args.toList.map a.eval).toArray = vs) (hc : ∀ vs w, (callFunc f vs).run Tryz.prog w = .ok (.enter f vs) w)
    (h : Calls Tryz.prog f vs w fun x w' => ∃ v, x = .returned v ∧ K (a.put d v) w') : wpOp Tryz.prog ops Q i K a w := by
  subst hd
  have hv' : args.map a.eval = vs := by rw [← hv]; apply Array.toList_inj.1; rw [Array.toList_map]
  subst hv'
  unfold wpOp
  simp only [hi]
  rw [if_pos hw]
  left
  unfold Oper.wp
  have hx : (execOp a.eval oi).run Tryz.prog w = .ok (.enter f (args.map a.eval)) w := by simp [execOp, ho, resolve, invoke, Act.eval, Deferred.ofValue, hc]
  rw [hx, Oper.upon_enter]
  refine h.mono ?_
  rintro x w' ⟨v, rfl, hh⟩
  exact hh
/-- Two that may come up. -/
theorem fork2G {P : Program} {ops : Array Oper} {Q : Exit → Act → World → Prop} {md : Region.Mode} {S : World → Prop} (i j : Nat) {fuel : Nat} {listed : Array Bool} {a : Act} {w : World} (hr : Region.ready md ops listed = [i, j])
    (h : ∀ w', Grows w w' → S w' → wpOp P ops Q i (fun a' w'' => S w'' ∧ wpAnyG P md ops Q S fuel (listed.setIfInBounds i true) a' w'') a w')
    (k : ∀ w', Grows w w' → S w' → wpOp P ops Q j (fun a' w'' => S w'' ∧ wpAnyG P md ops Q S fuel (listed.setIfInBounds j true) a' w'') a w') : wpAnyG P md ops Q S (fuel + 1) listed a w :=
  fun w' hg hS => ⟨fun h0 => (by rw [h0] at hr; cases hr), fun x hx => by
    rw [hr] at hx
    rcases List.mem_cons.1 hx with rfl | hx
    · exact h w' hg hS
    · rw [List.mem_singleton.1 hx]
      exact k w' hg hS⟩

end Go.Proofs.YtlenmkhmkommcaaGreat

/-
  Contracts of layer 13's statements' own functions Key and Long; a text's bytes marked wherever they lie. Condition: long texts of at most 2000 bytes.
-/
namespace Go.Proofs.YtlenmkhmkommcaaGreat
open Go.RowKit
set_option linter.unusedVariables false

def KeysC (w : World) (n : Nat) (e : Ending) (w' : World) : Prop := ∃ g, e = .returned (.slice (some ⟨g, 0, none⟩) 32 32) ∧ w.heap.size ≤ g ∧ Own w' w.heap.size (.slice (some ⟨g, 0, none⟩) 32 32) (keyC n) ∧ Below w.heap.size w w'
theorem keyC_set (n : Nat) : (List.replicate 32 (0 : UInt8)).set 31 (UInt8.ofNat n) = keyC n := rfl
theorem keyC_int {n : Nat} (h : n ≤ 255) : ((UInt8.ofNat n).toNat : Int) = (n : Int) := by
  rw [UInt8.toNat_ofNat']
  omega
set_option maxHeartbeats 1000000 in
theorem lKey13 (w : World) (n : Nat) (hn : n ≤ 255) : Calls Tryz.prog 16 #[.int .u8 (n : Int)] w (KeysC w n) := by
  go_enter Tryz.func16, Tryz.ntmps16
  go_wp2_with (at_make; refine wpList_mkn _ rfl _ _ rfl w.heap.size 32 _ rfl rfl rfl (by omega) (Nat.le_refl _) ?_; intro g w1 hg hgl hown hbel
               have hlen : (List.replicate 32 (0 : UInt8)).length = 32 := by simp
               obtain ⟨v0, hcell⟩ := hown.cell hlen 31 (by omega)
               have hfr := hown.free hlen 31)
  go_ret
  have hlen : (List.replicate 32 (0 : UInt8)).length = 32 := by simp
  have ho2 := hown.set hlen 31 (UInt8.ofNat n)
  rw [keyC_set] at ho2
  have hb2 := hbel.setCell (p := ⟨g, 31, none⟩) hg (.int .u8 ((UInt8.ofNat n).toNat : Int))
  rw [keyC_int hn] at ho2 hb2
  exact ⟨g, rfl, hg, ho2, hb2⟩

end Go.Proofs.YtlenmkhmkommcaaGreat

/-
  The contract of layer 16's smoke: it answers true, and leaves all as it was. No condition.
-/
namespace Go.Proofs.YtlenmkhmkommcaaGreat
open Go.RowKit
set_option linter.unusedVariables false

def pg2 : List Pag := [⟨30, 7, false⟩, ⟨31, 8, false⟩]
def L16 : List Chg := [(30, like 7), (31, like 8)]
theorem L16_eq : imgL pg2 = L16 := by simp [imgL, pg2, L16, Pag.img]
theorem L16_ok : ∀ c ∈ L16, okI c := by
  intro c hc
  rcases List.mem_cons.1 hc with rfl | hc
  · exact ⟨by show (0 : Int) ≤ 30; omega, by show (30 : Int) < 4096; omega, like_length 7⟩
  · rcases List.mem_cons.1 hc with rfl | hc
    · exact ⟨by show (0 : Int) ≤ 31; omega, by show (31 : Int) < 4096; omega, like_length 8⟩
    · cases hc
theorem works16 : ∃ (D1 D2 D3 D4 : DskS) (S1 : SeaS), wrtD (DskS.new PowS.new 40) (SeaS.new true) (keyC 1) 5 L16 = (D1, 0) ∧ wrtS (SeaS.new true) (keyC 1) 5 L16 = S1 ∧ redD D1 S1 (keyC 1) 5 2 = (D2, L16, 0) ∧ redS D1 S1 (keyC 1) 5 2 = S1 ∧ redD D2 S1 (keyC 1) 6 2 = (D3, [], 6) ∧ redS D2 S1 (keyC 1) 6 2 = S1 ∧ applyD D3 L16 = (D4, 0) ∧ D1.fit 75 ∧ D2.fit 150 ∧ D3.fit 225 ∧ D4.fit 234 ∧ D4.loose = [] ∧ D4.look 31 = like 8 ∧ D4.n = 40 := by
  have hk := keyC_length 1
  obtain ⟨a1, a2, a3, a4, a5, a6⟩ := wrt_calm (DskS.calm.new 40) (S := SeaS.new true) hk (e := 5) (by omega) (l := L16) (by decide) L16_ok (by show (24 : Int) ≤ 40; omega)
  have f1 := wrtD_fit (DskS.fit_new (n := 40) (by omega)) (by omega) (SeaS.new true) (keyC 1) 5 L16
  have s1 := wrtS_eq (S := SeaS.new true) (k := keyC 1) (e := 5) (by omega) (l := L16) (by decide) L16_ok
  obtain ⟨D1, hD1⟩ : ∃ D1, D1 = (wrtD (DskS.new PowS.new 40) (SeaS.new true) (keyC 1) 5 L16).1 := ⟨_, rfl⟩
  obtain ⟨S1, hS1⟩ : ∃ S1, S1 = wrtS (SeaS.new true) (keyC 1) 5 L16 := ⟨_, rfl⟩
  rw [← hD1] at a2 a3 a4 a5 a6 f1
  rw [← hS1] at s1
  have hi : S1.ideal = true := by rw [hS1, wrtS_ideal]; rfl
  have hn1 : D1.n = 40 := a3
  obtain ⟨b1, b2, b3, b4, b5⟩ := red_back a2 (SeaS.Ok.new true) hk (e := 5) (by omega) (l := L16) (by decide) L16_ok (by omega) s1 a5 a6
  have f2 := redD_fit f1 S1 (keyC 1) 5 (L16.length : Int)
  obtain ⟨D2, hD2⟩ : ∃ D2, D2 = (redD D1 S1 (keyC 1) 5 (L16.length : Int)).1 := ⟨_, rfl⟩
  rw [← hD2] at b2 b3 b4 b5 f2
  obtain ⟨c1, c2, c3, c4, c5⟩ := red_tells b2 (S := S1) (k := keyC 1) (k' := keyC 1) (e := 5) (e' := 6) (n := 2) (l := L16) (by omega) (by omega) (by omega) (by omega) (by decide) (by omega) (by omega) s1 (by rw [b5]; exact a5) (by omega)
  have f3 := redD_fit f2 S1 (keyC 1) 6 2
  obtain ⟨D3, hD3⟩ : ∃ D3, D3 = (redD D2 S1 (keyC 1) 6 2).1 := ⟨_, rfl⟩
  rw [← hD3] at c2 c3 c4 c5 f3
  have hn3 : D3.n = 40 := by rw [c3, b3, hn1]
  obtain ⟨e1, e2, e3, e4, e5⟩ := applyD_calm c2 (l := L16) fun c hc => by
    rw [hn3]
    rcases List.mem_cons.1 hc with rfl | hc
    · exact ⟨by show (0 : Int) ≤ 30; omega, by show (30 : Int) < 40; omega, like_length 7⟩
    · rcases List.mem_cons.1 hc with rfl | hc
      · exact ⟨by show (0 : Int) ≤ 31; omega, by show (31 : Int) < 40; omega, like_length 8⟩
      · cases hc
  have f4 : (applyD D3 L16).1.fit 234 := (applyD_fit f3 (by decide)).a_mono (by decide)
  refine ⟨D1, D2, D3, (applyD D3 L16).1, S1, Prod.ext hD1.symm a1, hS1.symm, Prod.ext hD2.symm b1, redS_ideal hi _ _ _ _, Prod.ext hD3.symm c1, redS_ideal hi _ _ _ _, Prod.ext rfl e1, f1, f2, f3, f4, e4, ?_, by rw [e3, hn3]⟩
  rw [e5]
  exact ovr_last (l := [(30, like 7)]) (c := (31, like 8)) (m := []) fun x hx => by cases hx
theorem pags2 (w : World) : Pags (w.alloc (.cells #[.int .i64 30, .int .u8 7, .bool false, .int .i64 31, .int .u8 8, .bool false] 77)) (some ⟨w.heap.size, 0, none⟩) 2 2 pg2 := by
  have hb : Blk (w.alloc (.cells #[.int .i64 30, .int .u8 7, .bool false, .int .i64 31, .int .u8 8, .bool false] 77)) w.heap.size [.int .i64 30, .int .u8 7, .bool false, .int .i64 31, .int .u8 8, .bool false] 77 := Blk.newAt w _ _ w.heap.size rfl _ rfl
  refine ⟨[[.int .i64 30, .int .u8 7, .bool false], [.int .i64 31, .int .u8 8, .bool false]], ⟨⟨rfl, ?_, rfl, by constructor <;> (show _ ≤ _) <;> decide⟩, ⟨rfl, ?_, rfl, by constructor <;> (show _ ≤ _) <;> decide⟩, trivial⟩, rfl, Nat.le_refl _, by unfold maxLen; omega, fun e => by simp at e, fun _ => ⟨w.heap.size, 0, rfl, hb.lt, hb.lt, hb.whole⟩⟩
  · intro v hv
    simp at hv
    rcases hv with rfl | rfl | rfl <;> rfl
  · intro v hv
    simp at hv
    rcases hv with rfl | rfl | rfl <;> rfl

set_option maxRecDepth 100000 in
set_option maxHeartbeats 4000000 in
theorem lWorks16 (w : World) : Calls Tryz.prog 6 #[] w fun e w' => e = .returned (.bool true) ∧ Below w.heap.size w w' := by
  obtain ⟨D1, D2, D3, D4, S1, q1, q2, q3, q4, q5, q6, q7, f1, f2, f3, f4, hl, h31, hn⟩ := works16
  have hid1 : Hid (S1.ideal = true) := by show _ = _; rw [← q2, wrtS_ideal]; rfl
  have CK : Hid (∀ u, Calls Tryz.prog 16 #[.int .u8 1] u (KeysC u 1)) := fun u => lKey13 u 1 (by omega)
  have CW : Hid (∀ (u : World) (U F V : Nat → Prop) (d r s : Nat) (M : SeaM) (ak a : Option Addr) (ck n c : Nat), Bth U F V u d r s (DskS.new PowS.new 40) (SeaS.new true) M → BA (fun j => ¬ V j) u ak 32 ck (keyC 1) → Imgs (Out U V) u a n c L16 → Calls Tryz.prog 17 #[.pointer (some ⟨d, 0, none⟩), .pointer (some ⟨s, 0, none⟩), .slice ak 32 ck, .int .i64 5, .slice a n c] u (WrtP U F V u d r s D1 S1 M 0)) := fun u U F V d r s M ak a ck n c h1 h2 h3 => by
    have := oWrite16 u h1 (DskS.fit_new (n := 40) (by omega)) (by omega) (by decide) h2 5 (by omega) h3 fun j hj => hj
    rw [q1, q2] at this
    exact this
  have CR1 : Hid (∀ (u : World) (U F V : Nat → Prop) (d r s : Nat) (M : SeaM) (ak : Option Addr) (ck : Nat), Bth U F V u d r s D1 S1 M → BA (Out U V) u ak 32 ck (keyC 1) → Calls Tryz.prog 24 #[.pointer (some ⟨d, 0, none⟩), .pointer (some ⟨s, 0, none⟩), .slice ak 32 ck, .int .i64 5, .int .i64 2] u (RedP U F V u d r s (D2, L16, 0) S1 M)) := fun u U F V d r s M ak ck h1 h2 => by
    have := oRead16 u h1 f1 (by omega) h2 5 2 (by omega) (by constructor <;> omega)
    rw [q3, q4] at this
    exact this
  have CR2 : Hid (∀ (u : World) (U F V : Nat → Prop) (d r s : Nat) (M : SeaM) (ak : Option Addr) (ck : Nat), Bth U F V u d r s D2 S1 M → BA (Out U V) u ak 32 ck (keyC 1) → Calls Tryz.prog 24 #[.pointer (some ⟨d, 0, none⟩), .pointer (some ⟨s, 0, none⟩), .slice ak 32 ck, .int .i64 6, .int .i64 2] u (RedP U F V u d r s (D3, [], 6) S1 M)) := fun u U F V d r s M ak ck h1 h2 => by
    have := oRead16 u h1 f2 (by omega) h2 6 2 (by omega) (by constructor <;> omega)
    rw [q5, q6] at this
    exact this
  have CA : Hid (∀ (u : World) (U F V : Nat → Prop) (d r : Nat) (a : Option Addr) (n c : Nat), Dk U F u d r D3 → Imgs (Out U V) u a n c L16 → Calls Tryz.prog 27 #[.pointer (some ⟨d, 0, none⟩), .slice a n c] u fun e w' => e = .returned (.int .i64 0) ∧ Dks U F u d r D4 w') := fun u U F V d r a n c h1 h2 => by
    have h3 : n = 2 := by rw [← Sl.len h2]; rfl
    have := oApply16 u h1 f3 h2 (fun j hj hF => hj.1 (h1.sub j hF)) (by omega)
    rw [q7] at this
    exact this
  have CL : Hid (∀ (u : World) (U F : Nat → Prop) (d r : Nat), Dk U F u d r D4 → Calls Tryz.prog 30 #[.pointer (some ⟨d, 0, none⟩), .int .i64 31] u fun e w' => ∃ p c, e = .returned (.slice p 512 c) ∧ Bs w' p 512 c (like 8) ∧ Below u.heap.size u w') := fun u U F d r h => (oDLook u h f4 (by omega) 31 (by omega)).mono (by
    rintro e w' ⟨p, m, c, rfl, hb, hB⟩
    rw [h31] at hb
    have : m = 512 := by rw [← hb.1.len]; exact like_length 8
    subst this
    exact ⟨p, c, rfl, hb.1, hB⟩)
  have CO : Hid (∀ (u : World) (U F : Nat → Prop) (d r : Nat), Dk U F u d r D4 → Calls Tryz.prog 32 #[.pointer (some ⟨d, 0, none⟩)] u fun e w' => e = .returned (.int .i64 0) ∧ Below u.heap.size u w') := fun u U F d r h => by
    have := oDLoose u h
    rw [hl] at this
    exact this
  have HLB : Hid ((like 8).getD 9 0 = 8) := like_get (by omega)
  clear q1 q2 q3 q4 q5 q6 q7 f1 f2 f3 f4 hl h31 hn
  go_enter Tryz.func6, Tryz.ntmps6
  go_wp2_with fail
  refine (oPNew w).mono ?_
  rintro e w1 ⟨r, rfl, hr, hp, hb1⟩
  go_wp2_with fail
  refine (oDNew w1 hp 40 (by omega)).mono ?_
  rintro e w2 ⟨d, U, F, rfl, hd, hU, hb2⟩
  have Q1 : Hid (Below w.heap.size w w1) := hb1
  have Q2 : Hid (Below w1.heap.size w1 w2) := hb2
  have HD : Hid (Dk U F w2 d r (DskS.new PowS.new 40)) := hd
  have HU : Hid (∀ j, U j → j = r ∨ w1.heap.size ≤ j) := hU
  clear hd hU hb2 hb1 hp
  go_wp2_with fail
  refine (oSNew true w2).mono ?_
  rintro e w3 ⟨s, V, M, rfl, hs3, hV3, hb3⟩
  have S3 : Hid (StaB w w3 U F V d r s (DskS.new PowS.new 40) (SeaS.new true) M) := StaB.first Q1.out hr HD.out HU.out Q2.out hs3 hV3 hb3
  clear hs3 hV3 hb3 HD HU Q1 Q2 hr
  have X4 : Hid (Pags (w3.alloc (.cells #[.int .i64 30, .int .u8 7, .bool false, .int .i64 31, .int .u8 8, .bool false] 77)) (some ⟨w3.heap.size, 0, none⟩) 2 2 pg2) := pags2 w3
  have b4 : Hid (Below w3.heap.size w3 (w3.alloc (.cells #[.int .i64 30, .int .u8 7, .bool false, .int .i64 31, .int .u8 8, .bool false] 77))) := below_alloc _ _
  go_wp2_with fail
  generalize w3.alloc (.cells #[.int .i64 30, .int .u8 7, .bool false, .int .i64 31, .int .u8 8, .bool false] 77) = w4 at *
  refine (lImages w4 X4.out (by omega)).mono ?_
  rintro e w5 ⟨a5, n5, c5, rfl, hI5, hb5⟩
  rw [L16_eq] at hI5
  have ln5 : n5 = 2 := by rw [← Sl.len hI5]; rfl
  subst ln5
  have S4 : Hid (StaB w w4 U F V d r s (DskS.new PowS.new 40) (SeaS.new true) M) := S3.out.grow b4.out
  have S5 : Hid (StaB w w5 U F V d r s (DskS.new PowS.new 40) (SeaS.new true) M) := S4.out.grow hb5
  have I5 : Hid (Imgs (Out U V) w5 a5 2 c5 L16) := hI5.mono fun j _ hj => S4.out.lt j hj
  clear S3 b4 X4 S4 hI5 hb5
  go_wp2_with fail
  refine (CK.out w5).mono ?_
  rintro e w6 ⟨g6, rfl, _, o6, hb6⟩
  have S6 : Hid (StaB w w6 U F V d r s (DskS.new PowS.new 40) (SeaS.new true) M) := S5.out.grow hb6
  have I6 : Hid (Imgs (Out U V) w6 a5 2 c5 L16) := I5.out.grow hb6
  have K6 : Hid (BA (fun j => ¬ V j) w6 (some ⟨g6, 0, none⟩) 32 32 (keyC 1)) := o6.ba.mono fun j _ hj => (S5.out.lt j hj).2
  clear S5 I5 o6 hb6
  go_wp2_with fail
  refine (CW.out w6 U F V d r s M _ _ _ _ _ S6.out.b K6.out I6.out).mono ?_
  rintro e w7 ⟨U7, F7, rfl, hB7, nU7, nF7, hk7⟩
  have S7 : Hid (StaB w w7 U7 F7 V d r s D1 S1 M) := S6.out.after hB7 nU7 hk7
  have I7 : Hid (Imgs (Out U7 V) w7 a5 2 c5 L16) := I6.out.after hk7 S6.out.b.dk.sub nU7
  clear S6 I6 K6 hB7 nU7 nF7 hk7 CW
  go_wp2_with fail
  refine (CK.out w7).mono ?_
  rintro e w8 ⟨g8, rfl, _, o8, hb8⟩
  have S8 : Hid (StaB w w8 U7 F7 V d r s D1 S1 M) := S7.out.grow hb8
  have I8 : Hid (Imgs (Out U7 V) w8 a5 2 c5 L16) := I7.out.grow hb8
  have K8 : Hid (BA (Out U7 V) w8 (some ⟨g8, 0, none⟩) 32 32 (keyC 1)) := o8.ba.mono fun j _ hj => S7.out.lt j hj
  clear S7 I7 o8 hb8
  go_wp2_with fail
  refine (CR1.out w8 U7 F7 V d r s M _ _ S8.out.b K8.out).mono ?_
  rintro e w9 ⟨a9, n9, c9, U9, F9, rfl, hB9, nU9, nF9, hk9, hI9⟩
  have ln9 : n9 = 2 := by rw [← Sl.len hI9]; rfl
  subst ln9
  have S9 : Hid (StaB w w9 U9 F9 V d r s D2 S1 M) := S8.out.after hB9 nU9 hk9
  have I9 : Hid (Imgs (Out U9 V) w9 a5 2 c5 L16) := I8.out.after hk9 S8.out.b.dk.sub nU9
  have J9 : Hid (Imgs (Out U9 V) w9 a9 2 c9 L16) := hI9.mono fun j _ hj => ⟨hj.1, (S8.out.lt j hj.2).2⟩
  clear S8 I8 K8 hB9 nU9 nF9 hk9 hI9 CR1
  go_wp2_with fail
  refine (CK.out w9).mono ?_
  rintro e w10 ⟨g10, rfl, _, o10, hb10⟩
  have S10 : Hid (StaB w w10 U9 F9 V d r s D2 S1 M) := S9.out.grow hb10
  have I10 : Hid (Imgs (Out U9 V) w10 a5 2 c5 L16) := I9.out.grow hb10
  have J10 : Hid (Imgs (Out U9 V) w10 a9 2 c9 L16) := J9.out.grow hb10
  have K10 : Hid (BA (Out U9 V) w10 (some ⟨g10, 0, none⟩) 32 32 (keyC 1)) := o10.ba.mono fun j _ hj => S9.out.lt j hj
  clear S9 I9 J9 o10 hb10
  go_wp2_with fail
  refine (CR2.out w10 U9 F9 V d r s M _ _ S10.out.b K10.out).mono ?_
  rintro e w11 ⟨a11, n11, c11, U11, F11, rfl, hB11, nU11, nF11, hk11, hI11⟩
  have S11 : Hid (StaB w w11 U11 F11 V d r s D3 S1 M) := S10.out.after hB11 nU11 hk11
  have I11 : Hid (Imgs (Out U11 V) w11 a5 2 c5 L16) := I10.out.after hk11 S10.out.b.dk.sub nU11
  have J11 : Hid (Imgs (Out U11 V) w11 a9 2 c9 L16) := J10.out.after hk11 S10.out.b.dk.sub nU11
  clear S10 I10 J10 K10 hB11 nU11 nF11 hk11 hI11 CR2 CK
  go_wp2_with fail
  refine (CA.out w11 U11 F11 V d r _ _ _ S11.out.b.dk J11.out).mono ?_
  rintro e w12 ⟨rfl, U12, F12, hd12, nU12, nF12, hk12⟩
  have S12 : Hid (StaB w w12 U12 F12 V d r s D4 S1 M) := S11.out.after (S11.out.b.disk hd12 hk12 nU12) nU12 (hk12.mono fun j _ hj => Or.inl hj)
  have I12 : Hid (Imgs (Out U12 V) w12 a5 2 c5 L16) := I11.out.after (hk12.mono fun j _ hj => Or.inl hj) S11.out.b.dk.sub nU12
  have J12 : Hid (Imgs (Out U12 V) w12 a9 2 c9 L16) := J11.out.after (hk12.mono fun j _ hj => Or.inl hj) S11.out.b.dk.sub nU12
  clear S11 I11 J11 hd12 nU12 nF12 hk12 CA
  go_wp2_with fail
  refine (rSame16 w12 I12.out J12.out (by omega) (by omega)).mono ?_
  rintro e w13 ⟨rfl, hb13⟩
  rw [decide_eq_true (rfl : L16 = L16)]
  have S13 : Hid (StaB w w13 U12 F12 V d r s D4 S1 M) := S12.out.grow hb13
  clear S12 I12 J12 hb13
  go_wp2_with fail
  refine (CL.out w13 _ _ d r S13.out.b.dk).mono ?_
  rintro e w14 ⟨p, c, rfl, hbs, hb14⟩
  have S14 : Hid (StaB w w14 U12 F12 V d r s D4 S1 M) := S13.out.grow hb14
  obtain ⟨b, o, ha, hlb, hcell⟩ := hbs.at (by omega)
  have c9' : w14.cell? ⟨b, o + 9, none⟩ = some (.int .u8 8) := by
    rw [hcell 9 (by omega)]
    have : bt (like 8) 9 = 8 := by unfold bt; rw [HLB.out]; rfl
    rw [this]
  subst ha
  clear S13 hcell hbs hb14 CL

  go_wp2_with fail
  refine (CO.out w14 _ _ d r S14.out.b.dk).mono ?_
  rintro e w15 ⟨rfl, hb15⟩
  have FIN : Hid (Below w.heap.size w w15) := (S14.out.grow hb15).bel
  clear S14 hb15 CO
  go_wp2_with fail
  go_ret
  exact ⟨rfl, FIN.out⟩

end Go.Proofs.YtlenmkhmkommcaaGreat

/-
  Plain laws of layer 16's statements: pages that may be noted, what of them is read. No condition.
-/
namespace Go.Proofs.YtlenmkhmkommcaaGreat
open Go.RowKit
set_option linter.unusedVariables false

/-- A page that a statement plays: from lo to 59. -/
abbrev Pag.good (lo : Int) (x : Pag) : Prop := x.bad = false ∧ lo ≤ x.at_ ∧ x.at_ ≤ 59
theorem Pag.good.ok {lo : Int} (hlo : 0 ≤ lo) {x : Pag} (h : x.good lo) : okI x.img := by
  obtain ⟨h1, h2, h3⟩ := h
  unfold Pag.img
  rw [h1]
  exact ⟨by show 0 ≤ x.at_; omega, by show x.at_ < 4096; omega, like_length _⟩
end Go.Proofs.YtlenmkhmkommcaaGreat

/-
  Bools and pokes that were handed in. No condition; no statement of the seat is proved here.
-/
namespace Go.Proofs.YtlenmkhmkommcaaGreat
open Go.RowKit

def BoW (w : World) (a : Option Addr) (n c : Nat) (l : List Bool) : Prop := BoA (fun j => j < w.heap.size) w a n c l
def Pokes (w : World) (a : Option Addr) (n c : Nat) (l : List Pok) : Prop := Sl (elP fun j => j < w.heap.size) 5 (fun j => j < w.heap.size) w a n c l
theorem bow_of_trod {H : Type} {enc : TypeId × Value → H} {W : World} {base : Nat} {held : Bool} {fuel : Nat} {a : Option Addr} {n c : Nat} {x : DataW H × List MemPlace} (h : DataW.trod enc Tryz.prog W base (fun _ => true) held fuel 23 [.slice a n c] = some x) : ∃ l, BoW W a n c l := BoA.of_trod (fun _ h => h) h
theorem pokes_of_trod {H : Type} {enc : TypeId × Value → H} {W : World} {base : Nat} {held : Bool} {fuel : Nat} {a : Option Addr} {n c : Nat} {x : DataW H × List MemPlace} (h : DataW.trod enc Tryz.prog W base (fun _ => true) held fuel 24 [.slice a n c] = some x) : ∃ l, Pokes W a n c l := Pokes.of_trod (fun _ h => h) h

end Go.Proofs.YtlenmkhmkommcaaGreat

/-
  Plain laws of RedoBack: what was noted is read, and stands where it belongs. No condition.
-/
namespace Go.Proofs.YtlenmkhmkommcaaGreat
open Go.RowKit
set_option linter.unusedVariables false

/-- No page from the i-th on, up to the k-th, is that of the i-th. -/
def last16 (L : List Chg) (i k : Nat) : Bool := decide (∀ j, j < k → i < j → ¬ (L.getD j (0, [])).1 = (L.getD i (0, [])).1)
theorem StaB.bo {w0 w : World} {U F V : Nat → Prop} {d r s : Nat} {D : DskS} {S : SeaS} {M : SeaM} (h : StaB w0 w U F V d r s D S M) {a : Option Addr} {n c : Nat} {l : List Bool} (hb : BoW w0 a n c l) : BoA (fun j => ¬ F j) w a n c l := by
  have h2 := BoA.keep hb h.bel.size fun j hj _ => h.bel.block j hj
  exact ⟨h2.1, fun hn => by
    obtain ⟨y, e, ha, hy⟩ := h2.2 hn
    exact ⟨y, e, fun hF => by have := h.baseU _ (h.b.dk.sub _ hF); have : y.block < w0.heap.size := ha; omega, hy⟩⟩
/-- The disk alone was at work. -/
theorem StaB.disk {w0 w w' : World} {U F V U' F' : Nat → Prop} {d r s : Nat} {D D' : DskS} {S : SeaS} {M : SeaM} (h : StaB w0 w U F V d r s D S M) (hd : Dk U' F' w' d r D') (n : Next w U U') (k : Kp F w w') : StaB w0 w' U' F' V d r s D' S M :=
  h.after (h.b.disk hd k n) n (k.mono fun j _ hj => Or.inl hj)

end Go.Proofs.YtlenmkhmkommcaaGreat

/-
  Contracts of layer 16's reference's beside, Head and Check. Conditions: epochs up to 2^40; in Head at most 23 pages that may be noted.
-/
namespace Go.Proofs.YtlenmkhmkommcaaGreat
open Go.RowKit
set_option linter.unusedVariables false

set_option maxHeartbeats 1000000 in
theorem rBes16 (w : World) (e : Nat) (he : e ≤ 1099511627776) : Calls Tryz.prog 39 #[.int .i64 (e : Int)] w (Gives w (besR e)) := by
  have kc := fun (w : World) (C : Array Value) (n c : Nat) => Lib.run_convert_bytes_const (P := Tryz.prog) w 26 5 C n c Tryz.underlying26 Tryz.underlying5
  have X2 : Hid (Bs (w.alloc (.cells #[.int .u8 108, .int .u8 111, .int .u8 103] 5 (3, 4))) (some ⟨w.heap.size, 0, none⟩) 3 3 [108, 111, 103]) := Bs.marked w [108, 111, 103] _ (3, 4) rfl (by decide)
  have b2 : Hid (Below w.heap.size w (w.alloc (.cells #[.int .u8 108, .int .u8 111, .int .u8 103] 5 (3, 4)))) := below_alloc w _
  go_enter Tryz.func39, Tryz.ntmps39
  go_wp2_with fail
  clear kc
  obtain ⟨x, hx⟩ : ∃ x, x = w.heap.size := ⟨_, rfl⟩
  generalize w.alloc (.cells #[.int .u8 108, .int .u8 111, .int .u8 103] 5 (3, 4)) = w2 at *
  rw [← hx] at X2 ⊢
  refine (rPut 8 (e : Int) 8 w2 (by omega) (by omega) (by omega) (by omega) (by omega)).mono ?_
  rintro _ w4 ⟨a4, m4, c4, rfl, o4, hb4⟩
  have P4 : Hid (Bs w4 a4 m4 c4 (putL e 8)) := o4.toBs
  have X4 : Hid (Bs w4 (some ⟨x, 0, none⟩) 3 3 [108, 111, 103]) := X2.out.below hb4 (Nat.le_refl _)
  have Q4 : Hid (Below w.heap.size w w4) := b2.out.trans (hb4.mono b2.out.size)
  clear o4 hb4 X2 b2 hx
  have H5 : Hid (Bss (w4.alloc (.cells #[.slice (some ⟨x, 0, none⟩) 3 3, .slice a4 m4 c4] 26)) (some ⟨w4.heap.size, 0, none⟩) 2 2 [[108, 111, 103], putL e 8]) := Bss.two X4.out P4.out
  have b5 : Hid (Below w4.heap.size w4 (w4.alloc (.cells #[.slice (some ⟨x, 0, none⟩) 3 3, .slice a4 m4 c4] 26))) := below_alloc w4 _
  go_wp2_with fail
  generalize w4.alloc (.cells #[.slice (some ⟨x, 0, none⟩) 3 3, .slice a4 m4 c4] 26) = w5 at *
  refine (rPack w5 H5.out (bes_tot16 e) (by omega)).mono ?_
  rintro _ w6 ⟨a6, m6, c6, rfl, o6, hb6⟩
  have Q5 := Q4.out.trans (b5.out.mono Q4.out.size)
  have Q6 := Q5.trans (hb6.mono Q5.size)
  have O6 := o6.mono Q5.size
  clear H5 b5 X4 P4 Q4 o6 hb6
  go_wp2_with fail
  go_ret
  exact ⟨a6, m6, c6, rfl, O6, Q6⟩

set_option maxRecDepth 100000 in
set_option maxHeartbeats 2000000 in
theorem rHed16 (w : World) {A : Nat → Prop} {a : Option Addr} {n c : Nat} {l : List Chg} (h : Imgs A w a n c l) (hn : n ≤ 23) (hok : ∀ c ∈ l, okI c) : Calls Tryz.prog 40 #[.slice a n c] w (Gives w (hedL l)) := by
  have HI : Hid (Imgs A w a n c l) := h
  have HL : Hid (l.length = n) := Sl.len h
  have HOK : Hid (∀ c ∈ l, okI c) := hok
  have hmax := Sl.cap h
  clear h hok
  go_enter Tryz.func40, Tryz.ntmps40
  go_wp2_with fail
  refine (rPut 2 (n : Int) 2 w (by omega) (by omega) (by omega) (by omega) (by omega)).mono ?_
  rintro _ w1 ⟨a1, m1, c1, rfl, o1, hb1⟩
  have O1 : Hid (Own w1 w.heap.size (.slice a1 m1 c1) (putL n 2 ++ ((l.take 0).map fun c => putL c.1.toNat 2).flatten)) := by show Own _ _ _ _; simpa using o1
  have B1 : Hid (Below w.heap.size w w1) := hb1
  clear o1 hb1
  go_wp2_with fail
  go_loopw [3, 4] (fun out i wr => ∃ (k : Nat) (oa : Option Addr) (on oc : Nat), k ≤ n ∧ i = .int .i64 (k : Int) ∧ out = .slice oa on oc ∧ Hid (Own wr w.heap.size (.slice oa on oc) (putL n 2 ++ ((l.take k).map fun c => putL c.1.toNat 2).flatten)) ∧ Hid (Below w.heap.size w wr)) (fun _ i _ => n - (intOf i).toNat)
  case atStart => exact ⟨0, _, _, _, Nat.zero_le _, rfl, rfl, O1, B1⟩
  case round =>
    obtain ⟨k, oa, on, oc, hk, rfl, rfl, HO, HB⟩ := hrel
    clear O1 B1
    by_cases hlt : k < n
    · have j0 : (k : Int) < (n : Int) := by omega
      obtain ⟨x, hx⟩ : ∃ x, l[k]? = some x := ⟨_, List.getElem?_eq_getElem (by rw [HL.out]; exact hlt)⟩
      obtain ⟨b, o, p, m, q, ha, hlb, x0, x1, _⟩ := (HI.out.grow HB.out).two hx
      have ho := HOK.out x (List.mem_of_getElem? hx)
      have HT : Hid (putL n 2 ++ ((l.take (k + 1)).map fun c => putL c.1.toNat 2).flatten = (putL n 2 ++ ((l.take k).map fun c => putL c.1.toNat 2).flatten) ++ putL x.1.toNat 2) := by
        show _ = _
        rw [List.take_add_one, hx]
        exact hedL_snoc _ _ _
      have HZ : Hid ((putL n 2 ++ ((l.take k).map fun c => putL c.1.toNat 2).flatten).length + 2 ≤ 1000000) := by
        show _ ≤ _
        rw [List.length_append, flat2_length, putL_length, List.length_take, HL.out]
        omega
      obtain ⟨xa, xb⟩ := x
      dsimp only at x0 x1 HT
      obtain ⟨h1, h2, _⟩ := ho
      dsimp only at h1 h2
      obtain ⟨y, hy⟩ : ∃ y : Nat, xa = (y : Int) := ⟨xa.toNat, by omega⟩
      subst hy
      rw [Int.toNat_natCast] at HT
      clear hx x1
      rw [ha]
      obtain ⟨OL, hOL⟩ : ∃ OL, OL = putL n 2 ++ ((l.take k).map fun c => putL c.1.toNat 2).flatten := ⟨_, rfl⟩
      rw [← hOL] at HO HT HZ
      clear hOL
      go_wp2_with fail
      refine (rPut 2 (y : Int) 2 wr (by omega) (by omega) (by omega) (by omega) (by omega)).mono ?_
      rintro _ w4 ⟨a4, m4, c4, rfl, o4, hb4⟩
      have P4 : Hid (Bs w4 a4 m4 c4 (putL y 2)) := o4.toBs
      have HO4 : Hid (Own w4 w.heap.size (.slice oa on oc) OL) := HO.out.below hb4 (Nat.le_refl _)
      have HB4 : Hid (Below w.heap.size w w4) := HB.out.trans (hb4.mono HB.out.size)
      have HZ4 : Hid (OL.length + (putL y 2).length ≤ 1000000000) := by show _ ≤ _; rw [putL_length]; have := HZ.out; omega
      clear o4 hb4 HO HB HZ x0
      go_wp2_with (at_builtin; refine wpList_app w4 rfl (.tmp 15) (.tmp 22) rfl w.heap.size (.slice oa on oc) _ rfl HO4.out a4 m4 c4 (putL y 2) rfl P4.out HZ4.out HB4.out.size ?_; intro v5 w5 o5 hb5; have O5 : Hid (Own w5 w.heap.size v5 (putL n 2 ++ ((l.take (k + 1)).map fun c => putL c.1.toNat 2).flatten)) := (by rw [HT.out]; exact o5); clear o5)
      obtain ⟨oa5, on5, oc5, hv5, _⟩ := O5.out.bs3
      subst hv5
      go_roundw
      case rel => exact ⟨k + 1, _, _, _, by omega, by go_num, rfl, O5, HB4.out.trans hb5⟩
      case measure => simp [intOf]; omega
    · have j0 : ¬ (k : Int) < (n : Int) := by omega
      have HE : Hid (putL n 2 ++ ((l.take k).map fun c => putL c.1.toNat 2).flatten = hedL l) := by
        show _ = _
        rw [List.take_of_length_le (by rw [HL.out]; omega)]
        unfold hedL
        rw [HL.out]
      rw [HE.out] at HO
      go_wp2_with fail
      go_ret
      exact Gives.mk HO.out HB.out
/-- What Check answers. -/
def chkE (e : Int) (l : List Chg) : Int := if e < 0 then 1 else chkL l

set_option maxRecDepth 100000 in
set_option maxHeartbeats 2000000 in
theorem rChk16 (w : World) (e : Int) {A : Nat → Prop} {a : Option Addr} {n c : Nat} {l : List Chg} (h : Imgs A w a n c l) : Calls Tryz.prog 36 #[.int .i64 e, .slice a n c] w fun x w' => x = .returned (.int .i64 (chkE e l)) ∧ Below w.heap.size w w' := by
  have HI : Hid (Imgs A w a n c l) := h
  have HL : Hid (l.length = n) := Sl.len h
  have hmax := Sl.cap h
  clear h
  by_cases he : e < 0
  · have HC : Hid (chkE e l = 1) := by show _ = _; unfold chkE; rw [if_pos he]
    go_enter Tryz.func36, Tryz.ntmps36
    go_wp2_with fail
    go_ret
    exact ⟨by rw [HC.out]; rfl, Below.refl _ _⟩
  have HE : Hid (chkE e l = chkL l) := by show _ = _; unfold chkE; rw [if_neg he]
  by_cases h23 : 23 < n
  · have i0 : (23 : Int) < (n : Int) := by omega
    have HC : Hid (chkE e l = 16) := by show _ = _; rw [HE.out]; unfold chkL; rw [HL.out, if_pos h23]
    go_enter Tryz.func36, Tryz.ntmps36
    go_wp2_with fail
    go_ret
    exact ⟨by rw [HC.out]; rfl, Below.refl _ _⟩
  · have i0 : ¬ (23 : Int) < (n : Int) := by omega
    go_enter Tryz.func36, Tryz.ntmps36
    go_wp2_with fail
    go_loopw [5] (fun i wr => ∃ k : Nat, k ≤ n ∧ i = .int .i64 (k : Int) ∧ Hid (∀ x ∈ l.take k, okI x) ∧ Hid (Below w.heap.size w wr)) (fun i _ => n - (intOf i).toNat)
    case atStart => exact ⟨0, Nat.zero_le _, rfl, fun x hx => by simp at hx, Below.refl _ _⟩
    case round =>
      obtain ⟨k, hk, rfl, HK, HB⟩ := hrel
      by_cases hlt : k < n
      · have j0 : (k : Int) < (n : Int) := by omega
        obtain ⟨x, hx⟩ : ∃ x, l[k]? = some x := ⟨_, List.getElem?_eq_getElem (by rw [HL.out]; exact hlt)⟩
        obtain ⟨b, o, p, m, q, ha, hlb, x0, x1, hB⟩ := (HI.out.grow HB.out).two hx
        have hmm := hB.max
        have HX : Hid (l[k]? = some x) := hx
        have HM : Hid (x.2.length = m) := hB.len
        obtain ⟨xa, xb⟩ := x
        dsimp only at x0 x1 HM
        clear hx hB
        rw [ha]
        by_cases t1 : xa < 0
        · have HBAD : Hid (chkE e l = 17) := by show _ = _; rw [HE.out]; exact chkL_bad (by rw [HL.out]; omega) (List.mem_of_getElem? HX.out) (fun hh => by have := hh.1; dsimp only at this; omega)
          go_wp2_with fail
          go_ret
          exact ⟨by rw [HBAD.out]; rfl, HB.out⟩
        · by_cases t2 : 4096 ≤ xa
          · have HBAD : Hid (chkE e l = 17) := by show _ = _; rw [HE.out]; exact chkL_bad (by rw [HL.out]; omega) (List.mem_of_getElem? HX.out) (fun hh => by have := hh.2.1; dsimp only at this; omega)
            go_wp2_with fail
            go_ret
            exact ⟨by rw [HBAD.out]; rfl, HB.out⟩
          · by_cases t3 : m = 512
            · subst t3
              have HN : Hid (∀ x ∈ l.take (k + 1), okI x) := chk_step HX.out HK.out ⟨by show 0 ≤ xa; omega, by show xa < 4096; omega, HM.out⟩
              go_wp2_with fail
              go_roundw
              case rel => exact ⟨k + 1, by omega, by go_num, HN, HB⟩
              case measure => simp [intOf]; omega
            · have HBAD : Hid (chkE e l = 17) := by show _ = _; rw [HE.out]; exact chkL_bad (by rw [HL.out]; omega) (List.mem_of_getElem? HX.out) (fun hh => by have := hh.2.2; dsimp only at this; have := HM.out; omega)
              have j3 : ¬ (m : Int) = 512 := by omega
              go_wp2_with fail
              go_ret
              exact ⟨by rw [HBAD.out]; rfl, HB.out⟩
      · have j0 : ¬ (k : Int) < (n : Int) := by omega
        have HOK : Hid (chkE e l = 0) := by show _ = _; rw [HE.out]; exact chkL_ok (by rw [HL.out]; omega) fun x hx => HK.out x (by rw [List.take_of_length_le (by rw [HL.out]; omega)]; exact hx)
        go_wp2_with fail
        go_ret
        exact ⟨by rw [HOK.out]; rfl, HB.out⟩

end Go.Proofs.YtlenmkhmkommcaaGreat

/-
  A variable made in a region that draws its order, wherever it comes. No condition; no statement of the seat is proved here.
-/
namespace Go.Proofs.YtlenmkhmkommcaaGreat
open Go.RowKit

/-- A variable made, wherever it comes. -/
theorem opMake {P : Program} {ops : Array Oper} {Q : Exit → Act → World → Prop} {md : Region.Mode} {S : World → Prop} (hS : ∀ w w', S w → Grows w w' → S w') {cells : Array Value} {t : TypeId} {i : Nat} {d : Tmp} (m : Makes P ops i d cells t) {fuel : Nat} {L : Array Bool} {a : Act} {w : World} (hs : S w)
    (h : ∀ g w', Grows w w' → S w' → Blk w' g cells.toList t → w.heap.size ≤ g → wpAnyG P md ops Q S fuel L (a.put (some d) (.pointer (some ⟨g, 0, none⟩))) w') : wpOp P ops Q i (fun a' w'' => S w'' ∧ wpAnyG P md ops Q S fuel L a' w'') a w :=
  m.op ⟨hS _ _ hs (below_alloc _ _), h _ _ (below_alloc _ _) (hS _ _ hs (below_alloc _ _)) (Blk.new w _ _) (Nat.le_refl _)⟩

end Go.Proofs.YtlenmkhmkommcaaGreat
