/-
  4 texts in one. No statement of the seat is proved here.
-/
import Derived.Test.YtfknplcnfpincaaGreatG24
import Derived.Deep.Matrix
/-
  The contract of layer 13's smoke: it answers true, and leaves all as it was. No condition.
-/
namespace Go.Proofs.YtfknplcnfpincaaGreat
open Go.RowKit
set_option linter.unusedVariables false

theorem pad_full {b : List UInt8} {m : Nat} (h : b.length = m + 16) (hm : m ≤ 496) : zer ((pad b).drop (m + 16)) = true ∧ (pad b).take (m + 16) = b := by
  rw [← h, pad_drop, pad_take]
  exact ⟨zer_rep _, rfl⟩
/-- What a sealer opens in another place: nothing. -/
def NoneC (U : Nat → Prop) (r : Nat) (S : SeaS) (M : SeaM) (w : World) (e : Ending) (w' : World) : Prop := ∃ a m c, e = .returned (.tuple #[.slice a m c, .int .i64 6]) ∧ Se U w' r S M ∧ Kp U w w'
theorem cutL_works {t : List UInt8} (h : t.length = 1000) : (cutL [t.take 496] 0 3 9).length = 6 := by
  rw [cutL_some (A := 3) (N := 6) (by omega) (by omega) (by simp [h])]
  simp [h]

set_option maxRecDepth 100000 in
set_option maxHeartbeats 8000000 in
theorem lWorks13 (w : World) : Calls Tryz.prog 4 #[] w fun e w' => e = .returned (.bool true) ∧ Below w.heap.size w w' := by
  obtain ⟨t, ht⟩ : ∃ t, t = longL [97, 98, 99] 1000 := ⟨_, rfl⟩
  have HTL : Hid (t.length = 1000) := by show _ = _; rw [ht, longL_length]
  have CL : Hid (∀ u a c, Bs u a 3 c [97, 98, 99] → Calls Tryz.prog 6 #[.slice a 3 c, .int .i64 1000] u (Gives u t)) := fun u a c h => by rw [ht]; exact lLong u h 1000 (by omega) (by omega)
  have hcn : cnt 1000 = 3 := by decide
  have CS : Hid (∀ (u : World) (U : Nat → Prop) (r : Nat) (M : SeaM) (ak aw at' : Option Addr) (ck cw ct : Nat), Se U u r (SeaS.new true) M → BA (fun j => ¬ U j) u ak 32 ck (keyC 1) → BA (fun j => ¬ U j) u aw 1 cw [120] → BA (fun j => ¬ U j) u at' 1000 ct t → Calls Tryz.prog 7 #[.pointer (some ⟨r, 0, none⟩), .slice ak 32 ck, .slice aw 1 cw, .slice at' 1000 ct] u (SealsC U r (chS (SeaS.new true) (keyC 1) [120] t 3 3) M (chB (SeaS.new true) (keyC 1) [120] t 3 3) u)) := fun u U r M ak aw at' ck cw ct h1 h2 h3 h4 => by
    have := oSeal13 u h1 (SeaS.Ok.new true) h2 h3 h4 (by omega) (by omega) (by decide)
    rw [hcn] at this
    exact this
  have HOK : Hid (chS (SeaS.new true) (keyC 1) [120] t 3 3).Ok := chS_ok (SeaS.Ok.new true) _ _ _ _ _ (by decide)
  have HML : Hid ((chM (SeaS.new true) (keyC 1) [120] t 3 1).length = 496 + 16) := by show _ = _; rw [chM_length (keyC_length 1), HTL.out]; decide
  have HB1 : Hid ((chB (SeaS.new true) (keyC 1) [120] t 3 3)[1]? = some (pad (chM (SeaS.new true) (keyC 1) [120] t 3 1))) := chB_at (by omega)
  have HBL : Hid ((chB (SeaS.new true) (keyC 1) [120] t 3 3).length = 3) := chB_length _ _ _ _ _ _
  have HO1 : Hid ((chS (SeaS.new true) (keyC 1) [120] t 3 3).opens (keyC 1) (nonL 0 1) (bes [120] 1 (decide (1 + 1 = cnt 1000))) (chM (SeaS.new true) (keyC 1) [120] t 3 1) = some (piece t 1)) := by
    show _ = _
    rw [hcn]
    exact chS_opens (SeaS.Ok.new true) (keyC_length 1) [120] t 3 (by omega) (by decide)
  have HPL : Hid ((piece t 1).length = 496) := by show _ = _; rw [piece_length, HTL.out]; decide
  have HOP : Hid (∀ k n b s, (chS (SeaS.new true) (keyC 1) [120] t 3 3).opened k n b s = chS (SeaS.new true) (keyC 1) [120] t 3 3) := fun k n b s => SeaS.opened_ideal (by rw [chS_ideal]; rfl) k n b s
  have HON : Hid ((chS (SeaS.new true) (keyC 1) [120] t 3 3).opens (keyC 1) (nonL 0 2) (bes [120] 2 (decide (2 + 1 = cnt 1000))) ((pad (chM (SeaS.new true) (keyC 1) [120] t 3 1)).take (plen 1000 2 + 16)) = none) := by
    show _ = _
    unfold SeaS.opens
    rw [if_pos (by rw [chS_ideal]; rfl)]
    have h := chS_whole (S := SeaS.new true) rfl rfl rfl (k := keyC 1) (k' := keyC 1) (what := [120]) (what' := [120]) (t := t) (m := plen 1000 2) (p := 2) (q := 1) (by decide) (by decide) (by rw [HTL.out]; decide) (by rw [HTL.out]; decide) (by omega) (plen_le _ _) (decide (2 + 1 = cnt 1000))
    rw [HTL.out, hcn] at h
    rw [← Option.not_isSome_iff_eq_none]
    intro hs
    exact absurd (h.1 hs).2.1 (by omega)
  have C8 : Hid (∀ (u : World) (U : Nat → Prop) (r : Nat) (M : SeaM) (ak aw ab : Option Addr) (ck cw cb : Nat), Se U u r (chS (SeaS.new true) (keyC 1) [120] t 3 3) M → Bs u ak 32 ck (keyC 1) → Bs u aw 1 cw [120] → Bs u ab 512 cb (pad (chM (SeaS.new true) (keyC 1) [120] t 3 1)) → Calls Tryz.prog 11 #[.pointer (some ⟨r, 0, none⟩), .slice ak 32 ck, .slice aw 1 cw, .int .i64 1000, .int .i64 1, .slice ab 512 cb] u (OpensS U r (chS (SeaS.new true) (keyC 1) [120] t 3 3) M (some (piece t 1)) u)) := fun u U r M ak aw ab ck cw cb h1 h2 h3 h4 => by
    have hp : plen 1000 1 = 496 := by decide
    obtain ⟨z1, z2⟩ := pad_full (m := 496) HML.out (by omega)
    have := (oOpen13 u h1 h2 h3 h4 (by omega) 1000 1 (by omega) (by decide)).2 (by rw [hp]; exact z1)
    rw [hp, z2, HOP.out, HO1.out] at this
    exact this
  have C9 : Hid (∀ (u : World) (U : Nat → Prop) (r : Nat) (M : SeaM) (ak aw ab : Option Addr) (ck cw cb : Nat), Se U u r (chS (SeaS.new true) (keyC 1) [120] t 3 3) M → Bs u ak 32 ck (keyC 1) → Bs u aw 1 cw [120] → Bs u ab 512 cb (pad (chM (SeaS.new true) (keyC 1) [120] t 3 1)) → Calls Tryz.prog 11 #[.pointer (some ⟨r, 0, none⟩), .slice ak 32 ck, .slice aw 1 cw, .int .i64 1000, .int .i64 2, .slice ab 512 cb] u (NoneC U r (chS (SeaS.new true) (keyC 1) [120] t 3 3) M u)) := fun u U r M ak aw ab ck cw cb h1 h2 h3 h4 => by
    have hh := oOpen13 u h1 h2 h3 h4 (by omega) 1000 2 (by omega) (by decide)
    cases hz : zer ((pad (chM (SeaS.new true) (keyC 1) [120] t 3 1)).drop (plen 1000 2 + 16)) with
    | false =>
      refine (hh.1 hz).mono ?_
      rintro e w' ⟨rfl, rfl⟩
      exact ⟨none, 0, 0, rfl, h1, Kp.refl _ _⟩
    | true =>
      have h2 := hh.2 hz
      rw [HOP.out, HON.out] at h2
      refine h2.mono ?_
      rintro e w' ⟨a, m, c, rfl, _, hse, hk⟩
      exact ⟨a, m, c, rfl, hse, hk⟩
  have CV : Hid (∀ u, Calls Tryz.prog 14 #[.int .i64 1000, .int .i64 495, .int .i64 497] u fun e w' => e = .returned (.tuple #[.int .i64 0, .int .i64 2]) ∧ u = w') := fun u => (oCover u 1000 495 497 (by omega) (by omega) (by omega) (by omega) (by omega)).2 495 497 rfl rfl (by omega) (by omega)
  have CP : Hid (∀ u, Calls Tryz.prog 15 #[.int .i64 1000, .int .i64 2] u fun e w' => e = .returned (.tuple #[.int .i64 992, .int .i64 1000]) ∧ u = w') := fun u => oPart u 1000 2 (by omega) (by omega)
  have CN : Hid (∀ u, Calls Tryz.prog 16 #[.int .i64 0] u fun e w' => e = .returned (.int .i64 1) ∧ u = w') := fun u => oCount u 0 (by omega)
  have CC : Hid (∀ u a, Bss u a 1 1 [t.take 496] → Calls Tryz.prog 17 #[.slice a 1 1, .int .i64 0, .int .i64 3, .int .i64 9] u (Gives u (cutL [t.take 496] 0 3 9))) := fun u a h => oCut13 u h (by simp [tot]; omega) (by omega) 0 (by omega) 3 9 (by omega) (by omega) (by omega) (by omega)
  have CK : Hid (∀ u, Calls Tryz.prog 8 #[.int .u8 1] u (KeysC u 1)) := fun u => lKey13 u 1 (by omega)
  have HCL : Hid ((cutL [t.take 496] 0 3 9).length = 6) := cutL_works HTL.out
  obtain ⟨Z, hZ⟩ : ∃ Z, Z = chS (SeaS.new true) (keyC 1) [120] t 3 3 := ⟨_, rfl⟩
  obtain ⟨LS, hLS⟩ : ∃ LS, LS = chB (SeaS.new true) (keyC 1) [120] t 3 3 := ⟨_, rfl⟩
  obtain ⟨PB, hPB⟩ : ∃ PB, PB = pad (chM (SeaS.new true) (keyC 1) [120] t 3 1) := ⟨_, rfl⟩
  have HPB : Hid (PB.length = 512) := by show _ = _; rw [hPB]; exact pad_length (by rw [HML.out]; omega)
  rw [← hZ] at CS HOK C8 C9
  rw [← hLS] at CS HB1 HBL
  rw [← hPB] at HB1 C8 C9
  clear hZ hLS hPB ht hcn HO1 HOP HON HML
  go_enter Tryz.func4, Tryz.ntmps4
  go_wp2_with fail
  refine (oSNew true w).mono ?_
  rintro e w1 ⟨s, U, M, rfl, hs1, hU1, hb1⟩
  have T1 : Hid (StaS w w1 s U (SeaS.new true) M) := StaS.first (Below.refl _ w) hs1 hU1 hb1
  clear hs1 hU1 hb1
  have kc := fun (w : World) (C : Array Value) (n c : Nat) => Lib.run_convert_bytes_const (P := Tryz.prog) w 22 5 C n c Tryz.underlying22 Tryz.underlying5
  have X2 : Hid (Bs (w1.alloc (.cells #[.int .u8 97, .int .u8 98, .int .u8 99] 5 (3, 4))) (some ⟨w1.heap.size, 0, none⟩) 3 3 [97, 98, 99]) := Bs.marked w1 [97, 98, 99] _ (3, 4) rfl (by decide)
  have b2 : Hid (Below w1.heap.size w1 (w1.alloc (.cells #[.int .u8 97, .int .u8 98, .int .u8 99] 5 (3, 4)))) := below_alloc w1 _
  go_wp2_with fail
  clear kc
  generalize w1.alloc (.cells #[.int .u8 97, .int .u8 98, .int .u8 99] 5 (3, 4)) = w2 at *
  refine (CL.out w2 _ _ X2.out).mono ?_
  rintro e w3 ⟨at', mt, ct, rfl, ot, hbt⟩
  have lmt := ot.toBs.len
  rw [HTL.out] at lmt
  subst lmt
  have T3 : Hid (StaS w w3 s U (SeaS.new true) M) := (T1.out.grow b2.out).grow hbt
  have TX3 : Hid (BA (fun j => ¬ U j) w3 at' 1000 ct t) := ot.no fun j hj => Nat.lt_of_lt_of_le (T1.out.se.lt j hj) b2.out.size
  clear T1 X2 b2 ot hbt CL
  go_wp2_with fail
  refine (CK.out w3).mono ?_
  rintro e w4 ⟨g4, rfl, _, o4, hb4⟩
  have T4 : Hid (StaS w w4 s U (SeaS.new true) M) := T3.out.grow hb4
  have K4 : Hid (BA (fun j => ¬ U j) w4 (some ⟨g4, 0, none⟩) 32 32 (keyC 1)) := o4.no T3.out.se.lt
  have TX4 : Hid (BA (fun j => ¬ U j) w4 at' 1000 ct t) := TX3.out.below' hb4
  clear T3 TX3 o4 hb4
  have kc := fun (w : World) (C : Array Value) (n c : Nat) => Lib.run_convert_bytes_const (P := Tryz.prog) w 22 5 C n c Tryz.underlying22 Tryz.underlying5
  have X5 : Hid (BA (fun j => ¬ U j) (w4.alloc (.cells #[.int .u8 120] 5 (1, 2))) (some ⟨w4.heap.size, 0, none⟩) 1 1 [120]) := BA.mark [120] #[.int .u8 120] (1, 2) rfl (by decide) T4.out.se.lt
  have b5 : Hid (Below w4.heap.size w4 (w4.alloc (.cells #[.int .u8 120] 5 (1, 2)))) := below_alloc w4 _
  go_wp2_with fail
  clear kc
  generalize w4.alloc (.cells #[.int .u8 120] 5 (1, 2)) = w5 at *
  have T5 : Hid (StaS w w5 s U (SeaS.new true) M) := T4.out.grow b5.out
  have TX5 : Hid (BA (fun j => ¬ U j) w5 at' 1000 ct t) := TX4.out.below' b5.out
  refine (CS.out w5 U s M _ _ _ _ _ _ T5.out.se (K4.out.below' b5.out) X5.out TX5.out).mono ?_
  rintro e w6 ⟨la, ln, lc, rfl, hBB, hse6, kp6⟩
  have T6 : Hid (StaS w w6 s U Z M) := T5.out.after hse6 HOK.out kp6
  have TX6 : Hid (BA (fun j => ¬ U j) w6 at' 1000 ct t) := TX5.out.kp kp6 fun j hj => hj
  have L6 : Hid (BB (fun j => ¬ U j) w6 la ln lc LS) := hBB.mono fun j _ hj hu => by have := T5.out.se.lt j hu; omega
  have lln := hBB.len
  rw [HBL.out] at lln
  subst lln
  clear T4 K4 TX4 X5 b5 T5 TX5 hBB hse6 kp6 CS
  obtain ⟨lb, lo', p1, m1, q1, hla, hlb, hAb, hcell, hB1⟩ := L6.out.at2 HB1.out
  subst hla
  have lm1 := hB1.1.len
  rw [HPB.out] at lm1
  subst lm1
  have P6 : Hid (BA (fun j => ¬ U j) w6 p1 512 q1 PB) := hB1
  have GC : Hid (∀ u, Kp U w6 u → u.cell? ⟨lb, lo' + 1, none⟩ = some (.slice p1 512 q1)) := fun u hu => by
    rw [World.cell?_of_block (w := w6) (hu.block lb hlb hAb)]
    exact hcell
  have HLB : Hid (lb < w6.heap.size) := hlb
  clear hB1 hcell hlb L6 HB1 hAb
  go_upto_region 8 with fail
  have GCw6 : Hid (∀ u, Kp U w6 u → u.cell? ⟨lb, lo' + 1, none⟩ = some (.slice p1 512 q1)) := GC
  have Pw6 : Hid (BA (fun j => ¬ U j) w6 p1 512 q1 PB) := P6
  have Tw6 : Hid (StaS w w6 s U Z M) := T6
  go_cut [5, 6] (fun bv fv wx => ∃ (pb : Option Addr) (cb : Nat), bv = .slice pb 496 cb ∧ fv = .int .i64 0 ∧ Hid (Se U wx s Z M ∧ Kp U w6 wx))
  case first =>
    refine regionG (S := Kp U w6) (by kernel_rfl) (Kp.of_below (Below.refl _ w6).drew) ?_
    refine takeG 0 (some 36) (.pointer (some ⟨s, 0, none⟩)) rfl rfl (by kernel_rfl) (by kernel_rfl) (by kernel_rfl) (fun _ _ _ h => h) (ans_plain (by rfl) (fun w _ => rfl)) ?_
    simp only [Act.put, List.setIfInBounds_toArray, List.set_cons_zero, List.set_cons_succ]
    refine takeG 4 (some 40) (.slice (some ⟨lb, lo', none⟩) 3 lc) rfl rfl (by kernel_rfl) (by kernel_rfl) (by kernel_rfl) (fun _ _ _ h => h) (ans_plain (by rfl) (fun w _ => rfl)) ?_
    simp only [Act.put, List.setIfInBounds_toArray, List.set_cons_zero, List.set_cons_succ]
    refine takeG 5 (some 41) (.pointer (some ⟨lb, lo' + 1, none⟩)) rfl rfl (by kernel_rfl) (by kernel_rfl) (by kernel_rfl) (fun _ _ _ h => h) (ans_plain (by rfl) (fun w h => by unfold execOp; go_simp)) ?_
    simp only [Act.put, List.setIfInBounds_toArray, List.set_cons_zero, List.set_cons_succ]
    refine takeG 6 (some 42) (.slice p1 512 q1) rfl rfl (by kernel_rfl) (by kernel_rfl) (by kernel_rfl) (fun _ _ _ h => h) (ans_plain (by rfl) (fun w h => by have hc := GCw6.out w h; have hlt := lt_of_cell hc; unfold execOp; go_simp)) ?_
    simp only [Act.put, List.setIfInBounds_toArray, List.set_cons_zero, List.set_cons_succ]
    refine fork2G 1 2 (by kernel_rfl) (fun v1 hg1 hs1 => ?_) (fun v2 hg1 hs1 => ?_)
    · refine opCallW 1 (some 37) 8 #[.const (.int .u8 1)] #[5] #[.int .u8 1] rfl rfl rfl (by rfl) (by rfl) Tryz.call8 ?_
      refine (CK.out v1).mono ?_
      rintro e u3 ⟨gk, rfl, hgk, ok, hbk⟩
      have KO := ok.toBs
      have Q1 : Below w6.heap.size w6 u3 := (Grows.ofDrew hg1).trans (hbk.mono (Below.size (Grows.ofDrew hg1)))
      refine ⟨_, rfl, hs1.trans (Kp.of_below hbk), ?_⟩
      simp only [Act.put, List.setIfInBounds_toArray, List.set_cons_zero, List.set_cons_succ]
      refine oneG 2 (by kernel_rfl) fun v4 hg2 hs2 => ?_
      refine opLitB (some 38) rfl rfl rfl 120 rfl ?_
      refine ⟨hs2.trans (Kp.of_below (below_alloc _ _)), ?_⟩
      simp only [Act.put, List.setIfInBounds_toArray, List.set_cons_zero, List.set_cons_succ]
      have KO := (KO.below hg2 (Nat.le_refl _)).below (below_alloc v4 (.cells #[.int .u8 120] 5)) (Nat.le_refl _)
      have Q2 : Below w6.heap.size w6 (v4.alloc (.cells #[.int .u8 120] 5)) := (Q1.trans (Below.mono hg2 Q1.size)).trans ((below_alloc v4 _).mono (Nat.le_trans Q1.size (Below.size hg2)))
      have HX0 := heap_alloc_new v4 (.cells #[.int .u8 120] 5)
      obtain ⟨gx, hgx⟩ : ∃ g, g = v4.heap.size := ⟨_, rfl⟩
      rw [← hgx] at HX0 ⊢
      have hkx : gk ≠ gx := by have h1 := (ok.blkF (keyC_length 1)).lt; have h2 := Below.size hg2; omega
      have hwx : w6.heap.size ≤ gx := by have h1 := hs2.size; omega
      have hsA := hs2.trans (Kp.of_below (F := U) (below_alloc v4 (.cells #[.int .u8 120] 5)))
      generalize v4.alloc (.cells #[.int .u8 120] 5) = ua at *
      refine oneG 3 (by kernel_rfl) fun v5 hg3 hs3 => ?_
      have GA : Below w6.heap.size w6 v5 := Q2.trans (Below.mono hg3 Q2.size)
      have HX : v5.heap[gx]? = some (.cells #[.int .u8 120] 5) := by rw [Below.block hg3 gx (Array.getElem?_eq_some_iff.1 HX0).1]; exact HX0
      have KO := KO.below hg3 (Nat.le_refl _)
      refine opConv (some 39) rfl rfl rfl (.tmp 38) rfl gx 1 1 #[.int .u8 120] rfl HX ?_
      have kf := freeze_kp v5 gx 1
      have hsf : Kp U w6 (v5.freeze ⟨gx, 1, none⟩ 1) := hs3.newer kf fun i e => by omega
      have XB : Bs (v5.freeze ⟨gx, 1, none⟩ 1) (some ⟨gx, 0, none⟩) 1 1 [120] := Bs.ofMark (freeze_blk v5 gx #[.int .u8 120] HX) rfl (by decide)
      have KB : Bs (v5.freeze ⟨gx, 1, none⟩ 1) (some ⟨gk, 0, none⟩) 32 32 (keyC 1) := KO.but kf.grown (fun x hx => by obtain rfl := Option.some.inj hx; exact hkx)
      have SE : Se U (v5.freeze ⟨gx, 1, none⟩ 1) s Z M := (Tw6.out.se.grow (GA)).kp kf fun j hj e => by have := Tw6.out.se.lt j hj; omega
      refine ⟨hsf, ?_⟩
      simp only [Act.put, List.setIfInBounds_toArray, List.set_cons_zero, List.set_cons_succ]
      generalize v5.freeze ⟨gx, 1, none⟩ 1 = uz at *
      refine callG 7 (some 43) 11 #[.tmp 36, .tmp 37, .tmp 39, .const (.int .i64 1000), .const (.int .i64 1), .tmp 42] #[25, 22, 22, 3, 3, 22] #[.pointer (some ⟨s, 0, none⟩), .slice (some ⟨gk, 0, none⟩) 32 32, .slice (some ⟨gx, 0, none⟩) 1 1, .int .i64 1000, .int .i64 1, .slice p1 512 q1] rfl rfl rfl (by rfl) (by rfl) (by kernel_rfl) Tryz.call11 fun v6 hgo hso => ?_
      have KB := KB.below hgo (Nat.le_refl _)
      have XB := XB.below hgo (Nat.le_refl _)
      refine (C8.out v6 U s M _ _ _ _ _ _ (SE.grow hgo) KB XB ((Pw6.out.kp hso fun j hj => hj).1)).mono ?_
      rintro e v7 ⟨pb, mb, cb, rfl, oB, seB, kpB⟩
      have lmb := oB.1.len
      rw [show (some (piece t 1)).getD [] = piece t 1 from rfl, HPL.out] at lmb
      subst lmb
      refine ⟨_, rfl, hso.trans kpB, ?_⟩
      simp only [Act.put, List.setIfInBounds_toArray, List.set_cons_zero, List.set_cons_succ]
      simp only [Option.isSome_some, if_true]
      refine takeG 8 (some 35) (.tuple #[.slice pb 496 cb, .int .i64 0]) rfl rfl (by kernel_rfl) (by kernel_rfl) (by kernel_rfl) (fun _ _ _ h => h) (ans_plain (by rfl) (fun w _ => rfl)) ?_
      simp only [Act.put, List.setIfInBounds_toArray, List.set_cons_zero, List.set_cons_succ]
      refine takeG 9 (some 44) (.slice pb 496 cb) rfl rfl (by kernel_rfl) (by kernel_rfl) (by kernel_rfl) (fun _ _ _ h => h) (ans_plain (by rfl) (fun w _ => by unfold execOp; go_simp)) ?_
      simp only [Act.put, List.setIfInBounds_toArray, List.set_cons_zero, List.set_cons_succ]
      refine takeG 10 (some 45) (.int .i64 0) rfl rfl (by kernel_rfl) (by kernel_rfl) (by kernel_rfl) (fun _ _ _ h => h) (ans_plain (by rfl) (fun w _ => by unfold execOp; go_simp)) ?_
      simp only [Act.put, List.setIfInBounds_toArray, List.set_cons_zero, List.set_cons_succ]
      refine takeG 11 (some 5) (.slice pb 496 cb) rfl rfl (by kernel_rfl) (by kernel_rfl) (by kernel_rfl) (fun _ _ _ h => h) (ans_plain (by rfl) (fun w _ => rfl)) ?_
      simp only [Act.put, List.setIfInBounds_toArray, List.set_cons_zero, List.set_cons_succ]
      refine takeG 12 (some 6) (.int .i64 0) rfl rfl (by kernel_rfl) (by kernel_rfl) (by kernel_rfl) (fun _ _ _ h => h) (ans_plain (by rfl) (fun w _ => rfl)) ?_
      simp only [Act.put, List.setIfInBounds_toArray, List.set_cons_zero, List.set_cons_succ]
      refine doneG (by kernel_rfl) fun v8 hgz hsz => ?_
      have T9 : Hid (Se U v8 s Z M ∧ Kp U w6 v8) := ⟨seB.grow hgz, hsz⟩
      clear seB kpB hgz hsz hso hgo KB XB SE
      go_wp2_with fail
      go_meet
      case rel => exact ⟨pb, cb, rfl, rfl, T9⟩
    · refine opLitB (some 38) rfl rfl rfl 120 rfl ?_
      refine ⟨hs1.trans (Kp.of_below (below_alloc _ _)), ?_⟩
      simp only [Act.put, List.setIfInBounds_toArray, List.set_cons_zero, List.set_cons_succ]
      have Q2 : Below w6.heap.size w6 (v2.alloc (.cells #[.int .u8 120] 5)) := (Grows.ofDrew hg1).trans ((below_alloc v2 _).mono (Below.size (Grows.ofDrew hg1)))
      have HX0 := heap_alloc_new v2 (.cells #[.int .u8 120] 5)
      obtain ⟨gx, hgx⟩ : ∃ g, g = v2.heap.size := ⟨_, rfl⟩
      rw [← hgx] at HX0 ⊢
      have hwx : w6.heap.size ≤ gx := by have h1 := hs1.size; omega
      generalize v2.alloc (.cells #[.int .u8 120] 5) = ua at *
      have hxl : gx < ua.heap.size := (Array.getElem?_eq_some_iff.1 HX0).1
      refine fork2G 1 3 (by kernel_rfl) (fun v9 hg2 hs2 => ?_) (fun v10 hg3 hs3 => ?_)
      · refine opCallW 1 (some 37) 8 #[.const (.int .u8 1)] #[5] #[.int .u8 1] rfl rfl rfl (by rfl) (by rfl) Tryz.call8 ?_
        refine (CK.out v9).mono ?_
        rintro e u11 ⟨gk, rfl, hgk, ok, hbk⟩
        have KO := ok.toBs
        have Q3 : Below w6.heap.size w6 u11 := (Q2.trans (Below.mono hg2 Q2.size)).trans (hbk.mono (Nat.le_trans Q2.size (Below.size hg2)))
        have hkx : gk ≠ gx := by have h2 := Below.size hg2; omega
        refine ⟨_, rfl, hs2.trans (Kp.of_below hbk), ?_⟩
        simp only [Act.put, List.setIfInBounds_toArray, List.set_cons_zero, List.set_cons_succ]
        refine oneG 3 (by kernel_rfl) fun v12 hg3 hs3 => ?_
        have HX : v12.heap[gx]? = some (.cells #[.int .u8 120] 5) := by rw [Below.block hg3 gx (by have h1 := Below.size hbk; have h2 := Below.size hg2; omega), Below.block hbk gx (by have h2 := Below.size hg2; omega), Below.block hg2 gx hxl]; exact HX0
        have GA : Below w6.heap.size w6 v12 := Q3.trans (Below.mono hg3 Q3.size)
        have KO := KO.below hg3 (Nat.le_refl _)
        refine opConv (some 39) rfl rfl rfl (.tmp 38) rfl gx 1 1 #[.int .u8 120] rfl HX ?_
        have kf := freeze_kp v12 gx 1
        have hsf : Kp U w6 (v12.freeze ⟨gx, 1, none⟩ 1) := hs3.newer kf fun i e => by omega
        have XB : Bs (v12.freeze ⟨gx, 1, none⟩ 1) (some ⟨gx, 0, none⟩) 1 1 [120] := Bs.ofMark (freeze_blk v12 gx #[.int .u8 120] HX) rfl (by decide)
        have KB : Bs (v12.freeze ⟨gx, 1, none⟩ 1) (some ⟨gk, 0, none⟩) 32 32 (keyC 1) := KO.but kf.grown (fun x hx => by obtain rfl := Option.some.inj hx; exact hkx)
        have SE : Se U (v12.freeze ⟨gx, 1, none⟩ 1) s Z M := (Tw6.out.se.grow (GA)).kp kf fun j hj e => by have := Tw6.out.se.lt j hj; omega
        refine ⟨hsf, ?_⟩
        simp only [Act.put, List.setIfInBounds_toArray, List.set_cons_zero, List.set_cons_succ]
        generalize v12.freeze ⟨gx, 1, none⟩ 1 = uz at *
        refine callG 7 (some 43) 11 #[.tmp 36, .tmp 37, .tmp 39, .const (.int .i64 1000), .const (.int .i64 1), .tmp 42] #[25, 22, 22, 3, 3, 22] #[.pointer (some ⟨s, 0, none⟩), .slice (some ⟨gk, 0, none⟩) 32 32, .slice (some ⟨gx, 0, none⟩) 1 1, .int .i64 1000, .int .i64 1, .slice p1 512 q1] rfl rfl rfl (by rfl) (by rfl) (by kernel_rfl) Tryz.call11 fun v13 hgo hso => ?_
        have KB := KB.below hgo (Nat.le_refl _)
        have XB := XB.below hgo (Nat.le_refl _)
        refine (C8.out v13 U s M _ _ _ _ _ _ (SE.grow hgo) KB XB ((Pw6.out.kp hso fun j hj => hj).1)).mono ?_
        rintro e v14 ⟨pb, mb, cb, rfl, oB, seB, kpB⟩
        have lmb := oB.1.len
        rw [show (some (piece t 1)).getD [] = piece t 1 from rfl, HPL.out] at lmb
        subst lmb
        refine ⟨_, rfl, hso.trans kpB, ?_⟩
        simp only [Act.put, List.setIfInBounds_toArray, List.set_cons_zero, List.set_cons_succ]
        simp only [Option.isSome_some, if_true]
        refine takeG 8 (some 35) (.tuple #[.slice pb 496 cb, .int .i64 0]) rfl rfl (by kernel_rfl) (by kernel_rfl) (by kernel_rfl) (fun _ _ _ h => h) (ans_plain (by rfl) (fun w _ => rfl)) ?_
        simp only [Act.put, List.setIfInBounds_toArray, List.set_cons_zero, List.set_cons_succ]
        refine takeG 9 (some 44) (.slice pb 496 cb) rfl rfl (by kernel_rfl) (by kernel_rfl) (by kernel_rfl) (fun _ _ _ h => h) (ans_plain (by rfl) (fun w _ => by unfold execOp; go_simp)) ?_
        simp only [Act.put, List.setIfInBounds_toArray, List.set_cons_zero, List.set_cons_succ]
        refine takeG 10 (some 45) (.int .i64 0) rfl rfl (by kernel_rfl) (by kernel_rfl) (by kernel_rfl) (fun _ _ _ h => h) (ans_plain (by rfl) (fun w _ => by unfold execOp; go_simp)) ?_
        simp only [Act.put, List.setIfInBounds_toArray, List.set_cons_zero, List.set_cons_succ]
        refine takeG 11 (some 5) (.slice pb 496 cb) rfl rfl (by kernel_rfl) (by kernel_rfl) (by kernel_rfl) (fun _ _ _ h => h) (ans_plain (by rfl) (fun w _ => rfl)) ?_
        simp only [Act.put, List.setIfInBounds_toArray, List.set_cons_zero, List.set_cons_succ]
        refine takeG 12 (some 6) (.int .i64 0) rfl rfl (by kernel_rfl) (by kernel_rfl) (by kernel_rfl) (fun _ _ _ h => h) (ans_plain (by rfl) (fun w _ => rfl)) ?_
        simp only [Act.put, List.setIfInBounds_toArray, List.set_cons_zero, List.set_cons_succ]
        refine doneG (by kernel_rfl) fun v15 hgz hsz => ?_
        have T9 : Hid (Se U v15 s Z M ∧ Kp U w6 v15) := ⟨seB.grow hgz, hsz⟩
        clear seB kpB hgz hsz hso hgo KB XB SE
        go_wp2_with fail
        go_meet
        case rel => exact ⟨pb, cb, rfl, rfl, T9⟩
      · have HX : v10.heap[gx]? = some (.cells #[.int .u8 120] 5) := by rw [Below.block hg3 gx hxl]; exact HX0
        have GA : Below w6.heap.size w6 v10 := Q2.trans (Below.mono hg3 Q2.size)
        refine opConv (some 39) rfl rfl rfl (.tmp 38) rfl gx 1 1 #[.int .u8 120] rfl HX ?_
        have kf := freeze_kp v10 gx 1
        have hsf : Kp U w6 (v10.freeze ⟨gx, 1, none⟩ 1) := hs3.newer kf fun i e => by omega
        have XB : Bs (v10.freeze ⟨gx, 1, none⟩ 1) (some ⟨gx, 0, none⟩) 1 1 [120] := Bs.ofMark (freeze_blk v10 gx #[.int .u8 120] HX) rfl (by decide)
        have SE : Se U (v10.freeze ⟨gx, 1, none⟩ 1) s Z M := (Tw6.out.se.grow (GA)).kp kf fun j hj e => by have := Tw6.out.se.lt j hj; omega
        refine ⟨hsf, ?_⟩
        simp only [Act.put, List.setIfInBounds_toArray, List.set_cons_zero, List.set_cons_succ]
        generalize v10.freeze ⟨gx, 1, none⟩ 1 = uz at *
        refine callG 1 (some 37) 8 #[.const (.int .u8 1)] #[5] #[.int .u8 1] rfl rfl rfl (by rfl) (by rfl) (by kernel_rfl) Tryz.call8 fun v16 hg4 hs4 => ?_
        refine (CK.out v16).mono ?_
        rintro e u17 ⟨gk, rfl, hgk, ok, hbk⟩
        have KB := ok.toBs
        have XB := (XB.below hg4 (Nat.le_refl _)).below hbk (Nat.le_refl _)
        have SE := (SE.grow hg4).grow hbk
        refine ⟨_, rfl, hs4.trans (Kp.of_below hbk), ?_⟩
        simp only [Act.put, List.setIfInBounds_toArray, List.set_cons_zero, List.set_cons_succ]
        refine callG 7 (some 43) 11 #[.tmp 36, .tmp 37, .tmp 39, .const (.int .i64 1000), .const (.int .i64 1), .tmp 42] #[25, 22, 22, 3, 3, 22] #[.pointer (some ⟨s, 0, none⟩), .slice (some ⟨gk, 0, none⟩) 32 32, .slice (some ⟨gx, 0, none⟩) 1 1, .int .i64 1000, .int .i64 1, .slice p1 512 q1] rfl rfl rfl (by rfl) (by rfl) (by kernel_rfl) Tryz.call11 fun v18 hgo hso => ?_
        have KB := KB.below hgo (Nat.le_refl _)
        have XB := XB.below hgo (Nat.le_refl _)
        refine (C8.out v18 U s M _ _ _ _ _ _ (SE.grow hgo) KB XB ((Pw6.out.kp hso fun j hj => hj).1)).mono ?_
        rintro e v19 ⟨pb, mb, cb, rfl, oB, seB, kpB⟩
        have lmb := oB.1.len
        rw [show (some (piece t 1)).getD [] = piece t 1 from rfl, HPL.out] at lmb
        subst lmb
        refine ⟨_, rfl, hso.trans kpB, ?_⟩
        simp only [Act.put, List.setIfInBounds_toArray, List.set_cons_zero, List.set_cons_succ]
        simp only [Option.isSome_some, if_true]
        refine takeG 8 (some 35) (.tuple #[.slice pb 496 cb, .int .i64 0]) rfl rfl (by kernel_rfl) (by kernel_rfl) (by kernel_rfl) (fun _ _ _ h => h) (ans_plain (by rfl) (fun w _ => rfl)) ?_
        simp only [Act.put, List.setIfInBounds_toArray, List.set_cons_zero, List.set_cons_succ]
        refine takeG 9 (some 44) (.slice pb 496 cb) rfl rfl (by kernel_rfl) (by kernel_rfl) (by kernel_rfl) (fun _ _ _ h => h) (ans_plain (by rfl) (fun w _ => by unfold execOp; go_simp)) ?_
        simp only [Act.put, List.setIfInBounds_toArray, List.set_cons_zero, List.set_cons_succ]
        refine takeG 10 (some 45) (.int .i64 0) rfl rfl (by kernel_rfl) (by kernel_rfl) (by kernel_rfl) (fun _ _ _ h => h) (ans_plain (by rfl) (fun w _ => by unfold execOp; go_simp)) ?_
        simp only [Act.put, List.setIfInBounds_toArray, List.set_cons_zero, List.set_cons_succ]
        refine takeG 11 (some 5) (.slice pb 496 cb) rfl rfl (by kernel_rfl) (by kernel_rfl) (by kernel_rfl) (fun _ _ _ h => h) (ans_plain (by rfl) (fun w _ => rfl)) ?_
        simp only [Act.put, List.setIfInBounds_toArray, List.set_cons_zero, List.set_cons_succ]
        refine takeG 12 (some 6) (.int .i64 0) rfl rfl (by kernel_rfl) (by kernel_rfl) (by kernel_rfl) (fun _ _ _ h => h) (ans_plain (by rfl) (fun w _ => rfl)) ?_
        simp only [Act.put, List.setIfInBounds_toArray, List.set_cons_zero, List.set_cons_succ]
        refine doneG (by kernel_rfl) fun v20 hgz hsz => ?_
        have T9 : Hid (Se U v20 s Z M ∧ Kp U w6 v20) := ⟨seB.grow hgz, hsz⟩
        clear seB kpB hgz hsz hso hgo KB XB SE
        go_wp2_with fail
        go_meet
        case rel => exact ⟨pb, cb, rfl, rfl, T9⟩
  case rest =>
  obtain ⟨pb, cb, rfl, rfl, R7⟩ := hcut
  have T7 : Hid (StaS w wc s U Z M) := T6.out.after R7.out.1 HOK.out R7.out.2
  have TX7 : Hid (BA (fun j => ¬ U j) wc at' 1000 ct t) := TX6.out.kp R7.out.2 fun j hj => hj
  have P7 : Hid (BA (fun j => ¬ U j) wc p1 512 q1 PB) := P6.out.kp R7.out.2 fun j hj => hj
  have GC7 : Hid (∀ u, Kp U wc u → u.cell? ⟨lb, lo' + 1, none⟩ = some (.slice p1 512 q1)) := fun u hu => GC.out u (R7.out.2.trans hu)
  clear T6 TX6 P6 GC R7 GCw6 Pw6 Tw6 C8 HLB
  rename World => w7
  have GCw7 : Hid (∀ u, Kp U w7 u → u.cell? ⟨lb, lo' + 1, none⟩ = some (.slice p1 512 q1)) := GC7
  have Pw7 : Hid (BA (fun j => ¬ U j) w7 p1 512 q1 PB) := P7
  have Tw7 : Hid (StaS w w7 s U Z M) := T7
  go_upto_region 9 with fail
  go_cut [7, 8] (fun bv fv wx => fv = .int .i64 6 ∧ Hid (Se U wx s Z M ∧ Kp U w7 wx))
  case first =>
    refine regionG (S := Kp U w7) (by kernel_rfl) (Kp.of_below (Below.refl _ w7).drew) ?_
    refine takeG 0 (some 47) (.pointer (some ⟨s, 0, none⟩)) rfl rfl (by kernel_rfl) (by kernel_rfl) (by kernel_rfl) (fun _ _ _ h => h) (ans_plain (by rfl) (fun w _ => rfl)) ?_
    simp only [Act.put, List.setIfInBounds_toArray, List.set_cons_zero, List.set_cons_succ]
    refine takeG 4 (some 51) (.slice (some ⟨lb, lo', none⟩) 3 lc) rfl rfl (by kernel_rfl) (by kernel_rfl) (by kernel_rfl) (fun _ _ _ h => h) (ans_plain (by rfl) (fun w _ => rfl)) ?_
    simp only [Act.put, List.setIfInBounds_toArray, List.set_cons_zero, List.set_cons_succ]
    refine takeG 5 (some 52) (.pointer (some ⟨lb, lo' + 1, none⟩)) rfl rfl (by kernel_rfl) (by kernel_rfl) (by kernel_rfl) (fun _ _ _ h => h) (ans_plain (by rfl) (fun w h => by unfold execOp; go_simp)) ?_
    simp only [Act.put, List.setIfInBounds_toArray, List.set_cons_zero, List.set_cons_succ]
    refine takeG 6 (some 53) (.slice p1 512 q1) rfl rfl (by kernel_rfl) (by kernel_rfl) (by kernel_rfl) (fun _ _ _ h => h) (ans_plain (by rfl) (fun w h => by have hc := GCw7.out w h; have hlt := lt_of_cell hc; unfold execOp; go_simp)) ?_
    simp only [Act.put, List.setIfInBounds_toArray, List.set_cons_zero, List.set_cons_succ]
    refine fork2G 1 2 (by kernel_rfl) (fun v21 hg1 hs1 => ?_) (fun v22 hg1 hs1 => ?_)
    · refine opCallW 1 (some 48) 8 #[.const (.int .u8 1)] #[5] #[.int .u8 1] rfl rfl rfl (by rfl) (by rfl) Tryz.call8 ?_
      refine (CK.out v21).mono ?_
      rintro e u23 ⟨gk, rfl, hgk, ok, hbk⟩
      have KO := ok.toBs
      have Q1 : Below w7.heap.size w7 u23 := (Grows.ofDrew hg1).trans (hbk.mono (Below.size (Grows.ofDrew hg1)))
      refine ⟨_, rfl, hs1.trans (Kp.of_below hbk), ?_⟩
      simp only [Act.put, List.setIfInBounds_toArray, List.set_cons_zero, List.set_cons_succ]
      refine oneG 2 (by kernel_rfl) fun v24 hg2 hs2 => ?_
      refine opLitB (some 49) rfl rfl rfl 120 rfl ?_
      refine ⟨hs2.trans (Kp.of_below (below_alloc _ _)), ?_⟩
      simp only [Act.put, List.setIfInBounds_toArray, List.set_cons_zero, List.set_cons_succ]
      have KO := (KO.below hg2 (Nat.le_refl _)).below (below_alloc v24 (.cells #[.int .u8 120] 5)) (Nat.le_refl _)
      have Q2 : Below w7.heap.size w7 (v24.alloc (.cells #[.int .u8 120] 5)) := (Q1.trans (Below.mono hg2 Q1.size)).trans ((below_alloc v24 _).mono (Nat.le_trans Q1.size (Below.size hg2)))
      have HX0 := heap_alloc_new v24 (.cells #[.int .u8 120] 5)
      obtain ⟨gx, hgx⟩ : ∃ g, g = v24.heap.size := ⟨_, rfl⟩
      rw [← hgx] at HX0 ⊢
      have hkx : gk ≠ gx := by have h1 := (ok.blkF (keyC_length 1)).lt; have h2 := Below.size hg2; omega
      have hwx : w7.heap.size ≤ gx := by have h1 := hs2.size; omega
      have hsA := hs2.trans (Kp.of_below (F := U) (below_alloc v24 (.cells #[.int .u8 120] 5)))
      generalize v24.alloc (.cells #[.int .u8 120] 5) = ua at *
      refine oneG 3 (by kernel_rfl) fun v25 hg3 hs3 => ?_
      have GA : Below w7.heap.size w7 v25 := Q2.trans (Below.mono hg3 Q2.size)
      have HX : v25.heap[gx]? = some (.cells #[.int .u8 120] 5) := by rw [Below.block hg3 gx (Array.getElem?_eq_some_iff.1 HX0).1]; exact HX0
      have KO := KO.below hg3 (Nat.le_refl _)
      refine opConv (some 50) rfl rfl rfl (.tmp 49) rfl gx 1 1 #[.int .u8 120] rfl HX ?_
      have kf := freeze_kp v25 gx 1
      have hsf : Kp U w7 (v25.freeze ⟨gx, 1, none⟩ 1) := hs3.newer kf fun i e => by omega
      have XB : Bs (v25.freeze ⟨gx, 1, none⟩ 1) (some ⟨gx, 0, none⟩) 1 1 [120] := Bs.ofMark (freeze_blk v25 gx #[.int .u8 120] HX) rfl (by decide)
      have KB : Bs (v25.freeze ⟨gx, 1, none⟩ 1) (some ⟨gk, 0, none⟩) 32 32 (keyC 1) := KO.but kf.grown (fun x hx => by obtain rfl := Option.some.inj hx; exact hkx)
      have SE : Se U (v25.freeze ⟨gx, 1, none⟩ 1) s Z M := (Tw7.out.se.grow (GA)).kp kf fun j hj e => by have := Tw7.out.se.lt j hj; omega
      refine ⟨hsf, ?_⟩
      simp only [Act.put, List.setIfInBounds_toArray, List.set_cons_zero, List.set_cons_succ]
      generalize v25.freeze ⟨gx, 1, none⟩ 1 = uz at *
      refine callG 7 (some 54) 11 #[.tmp 47, .tmp 48, .tmp 50, .const (.int .i64 1000), .const (.int .i64 2), .tmp 53] #[25, 22, 22, 3, 3, 22] #[.pointer (some ⟨s, 0, none⟩), .slice (some ⟨gk, 0, none⟩) 32 32, .slice (some ⟨gx, 0, none⟩) 1 1, .int .i64 1000, .int .i64 2, .slice p1 512 q1] rfl rfl rfl (by rfl) (by rfl) (by kernel_rfl) Tryz.call11 fun v26 hgo hso => ?_
      have KB := KB.below hgo (Nat.le_refl _)
      have XB := XB.below hgo (Nat.le_refl _)
      refine (C9.out v26 U s M _ _ _ _ _ _ (SE.grow hgo) KB XB ((Pw7.out.kp hso fun j hj => hj).1)).mono ?_
      rintro e v27 ⟨pb, mb, cb, rfl, seB, kpB⟩
      refine ⟨_, rfl, hso.trans kpB, ?_⟩
      simp only [Act.put, List.setIfInBounds_toArray, List.set_cons_zero, List.set_cons_succ]
      refine takeG 8 (some 46) (.tuple #[.slice pb mb cb, .int .i64 6]) rfl rfl (by kernel_rfl) (by kernel_rfl) (by kernel_rfl) (fun _ _ _ h => h) (ans_plain (by rfl) (fun w _ => rfl)) ?_
      simp only [Act.put, List.setIfInBounds_toArray, List.set_cons_zero, List.set_cons_succ]
      refine takeG 9 (some 55) (.slice pb mb cb) rfl rfl (by kernel_rfl) (by kernel_rfl) (by kernel_rfl) (fun _ _ _ h => h) (ans_plain (by rfl) (fun w _ => by unfold execOp; go_simp)) ?_
      simp only [Act.put, List.setIfInBounds_toArray, List.set_cons_zero, List.set_cons_succ]
      refine takeG 10 (some 56) (.int .i64 6) rfl rfl (by kernel_rfl) (by kernel_rfl) (by kernel_rfl) (fun _ _ _ h => h) (ans_plain (by rfl) (fun w _ => by unfold execOp; go_simp)) ?_
      simp only [Act.put, List.setIfInBounds_toArray, List.set_cons_zero, List.set_cons_succ]
      refine takeG 11 (some 7) (.slice pb mb cb) rfl rfl (by kernel_rfl) (by kernel_rfl) (by kernel_rfl) (fun _ _ _ h => h) (ans_plain (by rfl) (fun w _ => rfl)) ?_
      simp only [Act.put, List.setIfInBounds_toArray, List.set_cons_zero, List.set_cons_succ]
      refine takeG 12 (some 8) (.int .i64 6) rfl rfl (by kernel_rfl) (by kernel_rfl) (by kernel_rfl) (fun _ _ _ h => h) (ans_plain (by rfl) (fun w _ => rfl)) ?_
      simp only [Act.put, List.setIfInBounds_toArray, List.set_cons_zero, List.set_cons_succ]
      refine doneG (by kernel_rfl) fun v28 hgz hsz => ?_
      have T9 : Hid (Se U v28 s Z M ∧ Kp U w7 v28) := ⟨seB.grow hgz, hsz⟩
      clear seB kpB hgz hsz hso hgo KB XB SE
      go_wp2_with fail
      go_meet
      case rel => exact ⟨rfl, T9⟩
    · refine opLitB (some 49) rfl rfl rfl 120 rfl ?_
      refine ⟨hs1.trans (Kp.of_below (below_alloc _ _)), ?_⟩
      simp only [Act.put, List.setIfInBounds_toArray, List.set_cons_zero, List.set_cons_succ]
      have Q2 : Below w7.heap.size w7 (v22.alloc (.cells #[.int .u8 120] 5)) := (Grows.ofDrew hg1).trans ((below_alloc v22 _).mono (Below.size (Grows.ofDrew hg1)))
      have HX0 := heap_alloc_new v22 (.cells #[.int .u8 120] 5)
      obtain ⟨gx, hgx⟩ : ∃ g, g = v22.heap.size := ⟨_, rfl⟩
      rw [← hgx] at HX0 ⊢
      have hwx : w7.heap.size ≤ gx := by have h1 := hs1.size; omega
      generalize v22.alloc (.cells #[.int .u8 120] 5) = ua at *
      have hxl : gx < ua.heap.size := (Array.getElem?_eq_some_iff.1 HX0).1
      refine fork2G 1 3 (by kernel_rfl) (fun v29 hg2 hs2 => ?_) (fun v30 hg3 hs3 => ?_)
      · refine opCallW 1 (some 48) 8 #[.const (.int .u8 1)] #[5] #[.int .u8 1] rfl rfl rfl (by rfl) (by rfl) Tryz.call8 ?_
        refine (CK.out v29).mono ?_
        rintro e u31 ⟨gk, rfl, hgk, ok, hbk⟩
        have KO := ok.toBs
        have Q3 : Below w7.heap.size w7 u31 := (Q2.trans (Below.mono hg2 Q2.size)).trans (hbk.mono (Nat.le_trans Q2.size (Below.size hg2)))
        have hkx : gk ≠ gx := by have h2 := Below.size hg2; omega
        refine ⟨_, rfl, hs2.trans (Kp.of_below hbk), ?_⟩
        simp only [Act.put, List.setIfInBounds_toArray, List.set_cons_zero, List.set_cons_succ]
        refine oneG 3 (by kernel_rfl) fun v32 hg3 hs3 => ?_
        have HX : v32.heap[gx]? = some (.cells #[.int .u8 120] 5) := by rw [Below.block hg3 gx (by have h1 := Below.size hbk; have h2 := Below.size hg2; omega), Below.block hbk gx (by have h2 := Below.size hg2; omega), Below.block hg2 gx hxl]; exact HX0
        have GA : Below w7.heap.size w7 v32 := Q3.trans (Below.mono hg3 Q3.size)
        have KO := KO.below hg3 (Nat.le_refl _)
        refine opConv (some 50) rfl rfl rfl (.tmp 49) rfl gx 1 1 #[.int .u8 120] rfl HX ?_
        have kf := freeze_kp v32 gx 1
        have hsf : Kp U w7 (v32.freeze ⟨gx, 1, none⟩ 1) := hs3.newer kf fun i e => by omega
        have XB : Bs (v32.freeze ⟨gx, 1, none⟩ 1) (some ⟨gx, 0, none⟩) 1 1 [120] := Bs.ofMark (freeze_blk v32 gx #[.int .u8 120] HX) rfl (by decide)
        have KB : Bs (v32.freeze ⟨gx, 1, none⟩ 1) (some ⟨gk, 0, none⟩) 32 32 (keyC 1) := KO.but kf.grown (fun x hx => by obtain rfl := Option.some.inj hx; exact hkx)
        have SE : Se U (v32.freeze ⟨gx, 1, none⟩ 1) s Z M := (Tw7.out.se.grow (GA)).kp kf fun j hj e => by have := Tw7.out.se.lt j hj; omega
        refine ⟨hsf, ?_⟩
        simp only [Act.put, List.setIfInBounds_toArray, List.set_cons_zero, List.set_cons_succ]
        generalize v32.freeze ⟨gx, 1, none⟩ 1 = uz at *
        refine callG 7 (some 54) 11 #[.tmp 47, .tmp 48, .tmp 50, .const (.int .i64 1000), .const (.int .i64 2), .tmp 53] #[25, 22, 22, 3, 3, 22] #[.pointer (some ⟨s, 0, none⟩), .slice (some ⟨gk, 0, none⟩) 32 32, .slice (some ⟨gx, 0, none⟩) 1 1, .int .i64 1000, .int .i64 2, .slice p1 512 q1] rfl rfl rfl (by rfl) (by rfl) (by kernel_rfl) Tryz.call11 fun v33 hgo hso => ?_
        have KB := KB.below hgo (Nat.le_refl _)
        have XB := XB.below hgo (Nat.le_refl _)
        refine (C9.out v33 U s M _ _ _ _ _ _ (SE.grow hgo) KB XB ((Pw7.out.kp hso fun j hj => hj).1)).mono ?_
        rintro e v34 ⟨pb, mb, cb, rfl, seB, kpB⟩
        refine ⟨_, rfl, hso.trans kpB, ?_⟩
        simp only [Act.put, List.setIfInBounds_toArray, List.set_cons_zero, List.set_cons_succ]
        refine takeG 8 (some 46) (.tuple #[.slice pb mb cb, .int .i64 6]) rfl rfl (by kernel_rfl) (by kernel_rfl) (by kernel_rfl) (fun _ _ _ h => h) (ans_plain (by rfl) (fun w _ => rfl)) ?_
        simp only [Act.put, List.setIfInBounds_toArray, List.set_cons_zero, List.set_cons_succ]
        refine takeG 9 (some 55) (.slice pb mb cb) rfl rfl (by kernel_rfl) (by kernel_rfl) (by kernel_rfl) (fun _ _ _ h => h) (ans_plain (by rfl) (fun w _ => by unfold execOp; go_simp)) ?_
        simp only [Act.put, List.setIfInBounds_toArray, List.set_cons_zero, List.set_cons_succ]
        refine takeG 10 (some 56) (.int .i64 6) rfl rfl (by kernel_rfl) (by kernel_rfl) (by kernel_rfl) (fun _ _ _ h => h) (ans_plain (by rfl) (fun w _ => by unfold execOp; go_simp)) ?_
        simp only [Act.put, List.setIfInBounds_toArray, List.set_cons_zero, List.set_cons_succ]
        refine takeG 11 (some 7) (.slice pb mb cb) rfl rfl (by kernel_rfl) (by kernel_rfl) (by kernel_rfl) (fun _ _ _ h => h) (ans_plain (by rfl) (fun w _ => rfl)) ?_
        simp only [Act.put, List.setIfInBounds_toArray, List.set_cons_zero, List.set_cons_succ]
        refine takeG 12 (some 8) (.int .i64 6) rfl rfl (by kernel_rfl) (by kernel_rfl) (by kernel_rfl) (fun _ _ _ h => h) (ans_plain (by rfl) (fun w _ => rfl)) ?_
        simp only [Act.put, List.setIfInBounds_toArray, List.set_cons_zero, List.set_cons_succ]
        refine doneG (by kernel_rfl) fun v35 hgz hsz => ?_
        have T9 : Hid (Se U v35 s Z M ∧ Kp U w7 v35) := ⟨seB.grow hgz, hsz⟩
        clear seB kpB hgz hsz hso hgo KB XB SE
        go_wp2_with fail
        go_meet
        case rel => exact ⟨rfl, T9⟩
      · have HX : v30.heap[gx]? = some (.cells #[.int .u8 120] 5) := by rw [Below.block hg3 gx hxl]; exact HX0
        have GA : Below w7.heap.size w7 v30 := Q2.trans (Below.mono hg3 Q2.size)
        refine opConv (some 50) rfl rfl rfl (.tmp 49) rfl gx 1 1 #[.int .u8 120] rfl HX ?_
        have kf := freeze_kp v30 gx 1
        have hsf : Kp U w7 (v30.freeze ⟨gx, 1, none⟩ 1) := hs3.newer kf fun i e => by omega
        have XB : Bs (v30.freeze ⟨gx, 1, none⟩ 1) (some ⟨gx, 0, none⟩) 1 1 [120] := Bs.ofMark (freeze_blk v30 gx #[.int .u8 120] HX) rfl (by decide)
        have SE : Se U (v30.freeze ⟨gx, 1, none⟩ 1) s Z M := (Tw7.out.se.grow (GA)).kp kf fun j hj e => by have := Tw7.out.se.lt j hj; omega
        refine ⟨hsf, ?_⟩
        simp only [Act.put, List.setIfInBounds_toArray, List.set_cons_zero, List.set_cons_succ]
        generalize v30.freeze ⟨gx, 1, none⟩ 1 = uz at *
        refine callG 1 (some 48) 8 #[.const (.int .u8 1)] #[5] #[.int .u8 1] rfl rfl rfl (by rfl) (by rfl) (by kernel_rfl) Tryz.call8 fun v36 hg4 hs4 => ?_
        refine (CK.out v36).mono ?_
        rintro e u37 ⟨gk, rfl, hgk, ok, hbk⟩
        have KB := ok.toBs
        have XB := (XB.below hg4 (Nat.le_refl _)).below hbk (Nat.le_refl _)
        have SE := (SE.grow hg4).grow hbk
        refine ⟨_, rfl, hs4.trans (Kp.of_below hbk), ?_⟩
        simp only [Act.put, List.setIfInBounds_toArray, List.set_cons_zero, List.set_cons_succ]
        refine callG 7 (some 54) 11 #[.tmp 47, .tmp 48, .tmp 50, .const (.int .i64 1000), .const (.int .i64 2), .tmp 53] #[25, 22, 22, 3, 3, 22] #[.pointer (some ⟨s, 0, none⟩), .slice (some ⟨gk, 0, none⟩) 32 32, .slice (some ⟨gx, 0, none⟩) 1 1, .int .i64 1000, .int .i64 2, .slice p1 512 q1] rfl rfl rfl (by rfl) (by rfl) (by kernel_rfl) Tryz.call11 fun v38 hgo hso => ?_
        have KB := KB.below hgo (Nat.le_refl _)
        have XB := XB.below hgo (Nat.le_refl _)
        refine (C9.out v38 U s M _ _ _ _ _ _ (SE.grow hgo) KB XB ((Pw7.out.kp hso fun j hj => hj).1)).mono ?_
        rintro e v39 ⟨pb, mb, cb, rfl, seB, kpB⟩
        refine ⟨_, rfl, hso.trans kpB, ?_⟩
        simp only [Act.put, List.setIfInBounds_toArray, List.set_cons_zero, List.set_cons_succ]
        refine takeG 8 (some 46) (.tuple #[.slice pb mb cb, .int .i64 6]) rfl rfl (by kernel_rfl) (by kernel_rfl) (by kernel_rfl) (fun _ _ _ h => h) (ans_plain (by rfl) (fun w _ => rfl)) ?_
        simp only [Act.put, List.setIfInBounds_toArray, List.set_cons_zero, List.set_cons_succ]
        refine takeG 9 (some 55) (.slice pb mb cb) rfl rfl (by kernel_rfl) (by kernel_rfl) (by kernel_rfl) (fun _ _ _ h => h) (ans_plain (by rfl) (fun w _ => by unfold execOp; go_simp)) ?_
        simp only [Act.put, List.setIfInBounds_toArray, List.set_cons_zero, List.set_cons_succ]
        refine takeG 10 (some 56) (.int .i64 6) rfl rfl (by kernel_rfl) (by kernel_rfl) (by kernel_rfl) (fun _ _ _ h => h) (ans_plain (by rfl) (fun w _ => by unfold execOp; go_simp)) ?_
        simp only [Act.put, List.setIfInBounds_toArray, List.set_cons_zero, List.set_cons_succ]
        refine takeG 11 (some 7) (.slice pb mb cb) rfl rfl (by kernel_rfl) (by kernel_rfl) (by kernel_rfl) (fun _ _ _ h => h) (ans_plain (by rfl) (fun w _ => rfl)) ?_
        simp only [Act.put, List.setIfInBounds_toArray, List.set_cons_zero, List.set_cons_succ]
        refine takeG 12 (some 8) (.int .i64 6) rfl rfl (by kernel_rfl) (by kernel_rfl) (by kernel_rfl) (fun _ _ _ h => h) (ans_plain (by rfl) (fun w _ => rfl)) ?_
        simp only [Act.put, List.setIfInBounds_toArray, List.set_cons_zero, List.set_cons_succ]
        refine doneG (by kernel_rfl) fun v40 hgz hsz => ?_
        have T9 : Hid (Se U v40 s Z M ∧ Kp U w7 v40) := ⟨seB.grow hgz, hsz⟩
        clear seB kpB hgz hsz hso hgo KB XB SE
        go_wp2_with fail
        go_meet
        case rel => exact ⟨rfl, T9⟩
  case rest =>
  obtain ⟨rfl, R8⟩ := hcut
  have T8 : Hid (StaS w wc s U Z M) := T7.out.after R8.out.1 HOK.out R8.out.2
  have TX8 : Hid (BA (fun j => ¬ U j) wc at' 1000 ct t) := TX7.out.kp R8.out.2 fun j hj => hj
  clear T7 TX7 P7 GC7 R8 GCw7 Pw7 Tw7 C9
  rename World => w8
  go_wp2_with fail
  refine (CV.out w8).mono ?_
  rintro e w9 ⟨rfl, rfl⟩
  go_wp2_with fail
  refine (CP.out w8).mono ?_
  rintro e w9 ⟨rfl, rfl⟩
  go_wp2_with fail
  refine (CN.out w8).mono ?_
  rintro e w9 ⟨rfl, rfl⟩
  obtain ⟨hcut2, hcb2⟩ := Bs.cutHigh TX8.out.1 496 (by omega)
  have H9 : Hid (Bss (w8.alloc (.cells #[.slice at' 496 ct] 22)) (some ⟨w8.heap.size, 0, none⟩) 1 1 [t.take 496]) := Bss.one1 (hcb2 w8 TX8.out.1)
  have b9 : Hid (Below w8.heap.size w8 (w8.alloc (.cells #[.slice at' 496 ct] 22))) := below_alloc w8 _
  have hcut3 : ∀ (w : World), Sem.run Tryz.prog (Instr.slice 22 (.slice at' 1000 ct) none (some (.int .i64 496)) none) w = .ok (.slice at' 496 ct) w := hcut2
  clear hcut2 hcb2
  go_wp2_with fail
  generalize w8.alloc (.cells #[.slice at' 496 ct] 22) = w9 at *
  refine (CC.out w9 _ H9.out).mono ?_
  rintro e w10 ⟨pz, mz, cz, rfl, oz, hbz⟩
  have lmz := oz.toBs.len
  rw [HCL.out] at lmz
  subst lmz
  have QZ : Hid (Below w.heap.size w w10) := (T8.out.bel.trans (b9.out.mono T8.out.bel.size)).trans (hbz.mono (Nat.le_trans T8.out.bel.size b9.out.size))
  clear oz hbz H9 b9
  go_wp2_with fail
  go_ret
  exact ⟨rfl, QZ.out⟩

end Go.Proofs.YtfknplcnfpincaaGreat

/-
  What any block is, as a piece of a text: the program's and the reference's answers, in one. Condition: an ideal sealer; what a text is of at most 60 bytes.
-/
namespace Go.Proofs.YtfknplcnfpincaaGreat
open Go.RowKit
set_option linter.unusedVariables false

theorem Own.empty13 (w : World) : Own (w.alloc (.cells #[] 5)) w.heap.size (.slice (some ⟨w.heap.size, 0, none⟩) 0 0) [] := Own.ofBlk (Blk.new w #[] 5) (Nat.le_refl _) rfl (by omega)
/-- What the program's Open leaves. -/
def OpP (U : Nat → Prop) (r : Nat) (Z : SeaS) (M : SeaM) (cd : Int) (tx : List UInt8) (u : World) (e : Ending) (w' : World) : Prop := ∃ a m c, e = .returned (.tuple #[.slice a m c, .int .i64 cd]) ∧ Bs w' a m c tx ∧ Se U w' r Z M ∧ Kp U u w'
theorem both13 {Z : SeaS} (hid : Z.ideal = true) (hz : Z.book.length ≤ 900) {k what blk : List UInt8} (hb : blk.length = 512) {nw : Nat} (zw : nw ≤ 60) (say i : Int) (s0 : -9223372036854775808 ≤ say) (s1 : say ≤ 9223372036854775807) (i0 : -9223372036854775808 ≤ i) (i1 : i ≤ 9223372036854775807) :
    ∃ (cd : Int) (tx : List UInt8),
      (∀ (u : World) (U : Nat → Prop) (r : Nat) (M : SeaM) (ak aw ab : Option Addr) (ck cw cb : Nat), Se U u r Z M → Bs u ak 32 ck k → Bs u aw nw cw what → Bs u ab 512 cb blk → Calls Tryz.prog 11 #[.pointer (some ⟨r, 0, none⟩), .slice ak 32 ck, .slice aw nw cw, .int .i64 say, .int .i64 i, .slice ab 512 cb] u (OpP U r Z M cd tx u)) ∧
      (∀ (u : World) (d : Du) (ak aw ab : Option Addr) (ck cw cb : Nat), RS (fun _ => True) u Z d → Bs u ak 32 ck k → Bs u aw nw cw what → Bs u ab 512 cb blk → Calls Tryz.prog 12 #[rsV Z d, .slice ak 32 ck, .slice aw nw cw, .int .i64 say, .int .i64 i, .slice ab 512 cb] u (OpR cd tx u)) := by
  by_cases hr : inR say i
  · obtain ⟨h1, h2, h3, h4⟩ := hr
    obtain ⟨n, rfl⟩ : ∃ n : Nat, say = n := ⟨say.toNat, by omega⟩
    obtain ⟨j, rfl⟩ : ∃ n : Nat, i = n := ⟨i.toNat, by omega⟩
    rw [Int.toNat_natCast] at h4
    refine ⟨opCode (zer (blk.drop (plen n j + 16))) (Z.opens k (nonL 0 j) (bes what j (decide (j + 1 = cnt n))) (blk.take (plen n j + 16))), opText (zer (blk.drop (plen n j + 16))) (Z.opens k (nonL 0 j) (bes what j (decide (j + 1 = cnt n))) (blk.take (plen n j + 16))), ?_, ?_⟩
    · intro u U r M ak aw ab ck cw cb hs hk hw hbk
      have hh := oOpen13 u hs hk hw hbk zw n j (by omega) (by omega)
      cases hzz : zer (blk.drop (plen n j + 16)) with
      | false =>
        refine (hh.1 hzz).mono ?_
        rintro e w' ⟨rfl, rfl⟩
        exact ⟨none, 0, 0, rfl, Bs.nil _, hs, Kp.refl _ _⟩
      | true =>
        have h5 := hh.2 hzz
        rw [SeaS.opened_ideal hid] at h5
        refine h5.mono ?_
        rintro e w' ⟨a, m, c, rfl, hB, hse, hk⟩
        exact ⟨a, m, c, rfl, hB.1, hse, hk⟩
    · intro u d ak aw ab ck cw cb hs hk hw hbk
      exact rOpen13 u hs hk hw hbk zw n j (by omega) (by omega) hz
  · refine ⟨2, [], ?_, ?_⟩
    · intro u U r M ak aw ab ck cw cb hs hk hw hbk
      refine (oOpenR u say i s0 s1 i0 i1 hs.blk.lt hr).mono ?_
      rintro e w' ⟨rfl, rfl⟩
      exact ⟨none, 0, 0, rfl, Bs.nil _, hs, Kp.refl _ _⟩
    · intro u d ak aw ab ck cw cb hs hk hw hbk
      exact rOpenR u say i s0 s1 i0 i1 hr
/-- A bool that tells something. -/
def CutB (P : Prop) (u : World) (bv : Value) (wx : World) : Prop := ∃ b : Bool, bv = .bool b ∧ (b = true → P) ∧ u = wx
theorem zeroNo8 (i : Nat) (v : Value) (h : ([.bool false, .slice none 0 0, .slice none 0 0, .int .u64 0, .bool false, .bool false] : List Value)[i]? = some v) (x : Int) : v ≠ .int .u8 x := by
  have := List.mem_of_getElem? h
  simp only [List.mem_cons, List.not_mem_nil, or_false] at this
  rcases this with rfl | rfl | rfl | rfl | rfl | rfl <;> simp

end Go.Proofs.YtfknplcnfpincaaGreat

/-
  How an argument that is a slice of bytes is opened into a plain list. No condition; no statement of the seat is proved here.
-/
namespace Go.Proofs.YtfknplcnfpincaaGreat
open Go.RowKit Go.ChangeShapes Go.WideShapes Go.ChangeAt

theorem Bs.of_trod {H : Type} {enc : TypeId × Value → H} {W : World} {base : Nat} {held : Bool} {fuel : Nat} {a : Option Addr} {n c : Nat} {x : DataW H × List MemPlace}
    (h : DataW.trod enc Tryz.prog W base (fun _ => true) held fuel 22 [.slice a n c] = some x) : ∃ l, Bs W a n c l := by
  rcases open_ints Tryz.underlying22 Tryz.underlying5 (by kernel_rfl) h with ⟨hcs, _⟩ | ⟨x, l, c, zs, hcs, _, hl, hm, hz, _, hcell, hwz⟩
  · simp at hcs
    obtain ⟨rfl, rfl, rfl⟩ := hcs
    exact ⟨[], Bs.nil W⟩
  · simp at hcs
    obtain ⟨rfl, rfl, rfl⟩ := hcs
    exact Bs.of_row (zs := zs) (Or.inr ⟨_, rfl, hl, hm, by simpa using hz, hcell, hwz⟩)

end Go.Proofs.YtfknplcnfpincaaGreat

/-
  How an argument that is a slice of slices of bytes is opened into plain lists. No condition; no statement of the seat is proved here.
-/
namespace Go.Proofs.YtfknplcnfpincaaGreat
open Go.RowKit Go.ChangeShapes Go.WideShapes Go.ChangeAt

theorem Bss.of_trod {H : Type} {enc : TypeId × Value → H} {W : World} {base : Nat} {held : Bool} {fuel : Nat} {a : Option Addr} {n c : Nat} {x : DataW H × List MemPlace}
    (h : DataW.trod enc Tryz.prog W base (fun _ => true) held fuel 28 [.slice a n c] = some x) : ∃ ls, Bss W a n c ls := by
  rcases Deep.open_int_rows Tryz.underlying28 Tryz.underlying22 Tryz.underlying5 (by kernel_rfl) (by kernel_rfl) h with ⟨hcs, _⟩ | ⟨y, len, cap, A, L, C, Z, hcs, _, hl, hm, _, hrow⟩
  · simp at hcs
    obtain ⟨rfl, rfl, rfl⟩ := hcs
    exact ⟨[], rfl, Nat.le_refl _, Nat.zero_le _, fun i hi => by omega⟩
  · simp at hcs
    obtain ⟨rfl, rfl, rfl⟩ := hcs
    have hex : ∀ r, r < n → ∃ l, Bs W (A r) (L r) (C r) l := by
      intro r hr
      obtain ⟨_, h1, h2, h3, h4, h5, h6⟩ := hrow r (by omega)
      cases hA : A r with
      | none =>
        have := h5 hA
        exact Bs.of_row (zs := []) (Or.inl ⟨rfl, by omega, this, rfl⟩)
      | some x =>
        exact Bs.of_row (zs := Z r) (Or.inr ⟨x, rfl, h1, h2, h3, fun i hi => (h6 x hA).2 i (by omega), h4⟩)
    obtain ⟨f, hf⟩ := Deep.choose_lt hex
    refine ⟨(List.range n).map f, by simp, hl, hm, fun i hi => ?_⟩
    obtain ⟨b, o, s⟩ := y
    have hs : s = none := by
      have h0 := (hrow 0 (by omega)).1
      simpa [Addr.add] using World.cell?_spot h0
    subst hs
    refine ⟨b, o, A i, L i, C i, rfl, ?_, ?_⟩
    · have := (hrow i (by omega)).1
      rw [add_none] at this
      exact this
    · have e : ((List.range n).map f).getD i [] = f i := by simp [List.getD_eq_getElem?_getD, hi]
      rw [e]
      exact hf i hi
end Go.Proofs.YtfknplcnfpincaaGreat
