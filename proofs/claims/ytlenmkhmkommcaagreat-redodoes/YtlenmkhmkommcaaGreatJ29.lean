/-
  3 texts in one. No statement of the seat is proved here.
-/
import Derived.Test.YtlenmkhmkommcaaGreatJ28
import Derived.Deep.DeepCutAuto
/-
  The contract of layer 12's reference's Seal. Conditions: what stands beside and texts of at most 600 bytes, a book of at most a thousand things.
-/
namespace Go.Proofs.YtlenmkhmkommcaaGreat
open Go.RowKit
set_option linter.unusedVariables false

theorem resCTT12 {fn : Func} {p t u : Tmp} {ty : TypeId} (h : fn.results = #[.cell p ty, .tmp t, .tmp u]) (tmps : Array Value) (w : World) (g : Nat) (cs : Array Value) (hp : tmps.getD p undef = .pointer (some ⟨g, 0, none⟩)) (hl : (loadVar ty ⟨g, 0, none⟩).run Tryz.prog w = .ok (.agg cs) w) (x y : Value) (hx : tmps.getD t undef = x) (hy : tmps.getD u undef = y) : (results fn tmps).run Tryz.prog w = .ok (.tuple #[.agg cs, x, y]) w := by
  have hp' : tmps[p]?.getD undef = .pointer (some ⟨g, 0, none⟩) := by simpa using hp
  have hx' : tmps[t]?.getD undef = x := by simpa using hx
  have hy' : tmps[u]?.getD undef = y := by simpa using hy
  simp [results, h, hp', hx', hy', asAddr, hl]
theorem SeaS.seal_noted (S : SeaS) (k n b t : List UInt8) : S.seal k n b t = ({ S with count := S.next } : SeaS).noted k n b t (S.made k n b t) := rfl
/-- All of A but one block. -/
def Off (A : Nat → Prop) (x : Nat) : Nat → Prop := fun j => A j ∧ j ≠ x
theorem BA.off {A : Nat → Prop} {w : World} {x : Nat} {p : Option Addr} {m q : Nat} {l : List UInt8} (h : BA A w p m q l) (hx : w.heap.size ≤ x) : BA (Off A x) w p m q l := h.mono' fun j hj ha => ⟨ha, by omega⟩
theorem RS.mono {A A' : Nat → Prop} {w : World} {S : SeaS} {d : Du} (h : RS A w S d) (hA : ∀ j, j < w.heap.size → A j → A' j) : RS A' w S d := ⟨h.book.mono (elE.mono hA) hA, h.kids.mono (elD.mono hA) hA⟩
theorem RS.off {A : Nat → Prop} {w : World} {x : Nat} {S : SeaS} {d : Du} (h : RS A w S d) (hx : w.heap.size ≤ x) : RS (Off A x) w S d := h.mono fun j hj ha => ⟨ha, by omega⟩
/-- What Seal answers. -/
def SealsR (A : Nat → Prop) (S' : SeaS) (l : List UInt8) (w : World) (e : Ending) (w' : World) : Prop := ∃ d' a m c, e = .returned (.tuple #[rsV S' d', .slice a m c, .int .i64 0]) ∧ RS A w' S' d' ∧ BA A w' a m c l ∧ Below w.heap.size w w'

set_option maxRecDepth 100000 in
set_option maxHeartbeats 4000000 in
theorem rSeal12 (w : World) {A : Nat → Prop} (hA : ∀ j, w.heap.size ≤ j → A j) {S : SeaS} {d : Du} (h : RS A w S d) {k n b t : List UInt8} {ak an ab at' : Option Addr} {ck cn nb cb nt ct : Nat} (hk : BA A w ak 32 ck k) (hn : BA A w an 12 cn n) (hb : BA A w ab nb cb b) (ht : BA A w at' nt ct t) (zb : nb ≤ 600) (zt : nt ≤ 600) (hz : S.book.length ≤ 1000) (hq : S.count ≤ 1000000) (hid : Hid (S.ideal = true) := by first | assumption | (show _ = _; rfl)) :
    Calls Tryz.prog 37 #[rsV S d, .slice ak 32 ck, .slice an 12 cn, .slice ab nb cb, .slice at' nt ct] w (SealsR A (S.seal k n b t) (S.made k n b t) w) := by
  have HR : Hid (RS A w S d) := h
  have HK : Hid (BA A w ak 32 ck k) := hk
  have HN : Hid (BA A w an 12 cn n) := hn
  have HB : Hid (BA A w ab nb cb b) := hb
  have HT : Hid (BA A w at' nt ct t) := ht
  have HAA : Hid (∀ j, w.heap.size ≤ j → A j) := hA
  have HZ : Hid (S.book.length ≤ 1000) := hz
  have HTL : Hid (t.length = nt) := ht.1.len
  have HKL : Hid ((keyF k).length = 240) := keyF_length hk.1.len
  clear h hk hn hb ht hA hz
  obtain ⟨ba, bn, bc, ca, cn', cc⟩ := d
  obtain ⟨si, sb, sk, sq, sr, sf⟩ := S
  dsimp only at hq HZ
  have HSN : Hid (SeaS.seal ⟨si, sb, sk, sq, sr, sf⟩ k n b t = (⟨si, sb, sk, SeaS.next ⟨si, sb, sk, sq, sr, sf⟩, sr, sf⟩ : SeaS).noted k n b t (SeaS.made ⟨si, sb, sk, sq, sr, sf⟩ k n b t)) := SeaS.seal_noted _ _ _ _ _
  have hbE : ∀ (p0 p1 p2 p3 : Option Addr) (m0 q0 m1 q1 m2 q2 m3 q3 : Nat), Tryz.prog.built 144 [(0, .slice p0 m0 q0), (1, .slice p1 m1 q1), (2, .slice p2 m2 q2), (3, .slice p3 m3 q3)] = some #[.slice p0 m0 q0, .slice p1 m1 q1, .slice p2 m2 q2, .slice p3 m3 q3, .slice none 0 0] := fun _ _ _ _ _ _ _ _ _ _ _ _ => by kernel_rfl
  show Calls Tryz.prog _ #[.agg #[.bool si, .slice ba bn bc, .slice ca cn' cc, .int .u64 (sq : Int), .bool sr, .bool sf], _, _, _, _] w _
  cases si with
  | false => exact Bool.noConfusion (show false = true from hid.out)
  | true =>
    have HM : Hid (SeaS.made ⟨true, sb, sk, sq, sr, sf⟩ k n b t = noiseL (sq + 1) (nt + 16) ∧ SeaS.next ⟨true, sb, sk, sq, sr, sf⟩ = sq + 1) := ⟨by unfold SeaS.made; rw [if_pos rfl, HTL.out], rfl⟩
    go_enter Tryz.func37, Tryz.ntmps37
    go_upto_region 7 with fail
    obtain ⟨x5, hx5⟩ : ∃ x, x = w.heap.size := ⟨_, rfl⟩
    obtain ⟨x10, hx10⟩ : ∃ x, x = w.heap.size + 1 := ⟨_, rfl⟩
    obtain ⟨x13, hx13⟩ : ∃ x, x = w.heap.size + 1 + 1 := ⟨_, rfl⟩
    obtain ⟨x14, hx14⟩ : ∃ x, x = w.heap.size + 1 + 1 + 1 := ⟨_, rfl⟩
    clear hbE
    have q1 : Below w.heap.size w ((((w.alloc (.cells #[.bool true, .slice ba bn bc, .slice ca cn' cc, .int .u64 (sq : Int), .bool sr, .bool sf] 54)).alloc (.cells #[.bool false, .slice none 0 0, .slice none 0 0, .int .u64 0, .bool false, .bool false] 54)).alloc (.cells #[.bool true, .slice ba bn bc, .slice ca cn' cc, .int .u64 ((sq : Int) + 1), .bool sr, .bool sf] 54)).alloc (.cells #[.slice ak 32 ck, .slice an 12 cn, .slice ab nb cb, .slice at' nt ct, .slice none 0 0] 144)) := (((below_alloc w _).trans ((below_alloc _ _).mono (by simp))).trans ((below_alloc _ _).mono (by simp; omega))).trans ((below_alloc _ _).mono (by simp; omega))
    have B10 : Blk ((((w.alloc (.cells #[.bool true, .slice ba bn bc, .slice ca cn' cc, .int .u64 (sq : Int), .bool sr, .bool sf] 54)).alloc (.cells #[.bool false, .slice none 0 0, .slice none 0 0, .int .u64 0, .bool false, .bool false] 54)).alloc (.cells #[.bool true, .slice ba bn bc, .slice ca cn' cc, .int .u64 ((sq : Int) + 1), .bool sr, .bool sf] 54)).alloc (.cells #[.slice ak 32 ck, .slice an 12 cn, .slice ab nb cb, .slice at' nt ct, .slice none 0 0] 144)) (w.heap.size + 1) [.bool false, .slice none 0 0, .slice none 0 0, .int .u64 0, .bool false, .bool false] 54 := ((Blk.newAt (w.alloc (.cells #[.bool true, .slice ba bn bc, .slice ca cn' cc, .int .u64 (sq : Int), .bool sr, .bool sf] 54)) _ _ _ (by simp) _ rfl).old _).old _
    have B13 : Blk ((((w.alloc (.cells #[.bool true, .slice ba bn bc, .slice ca cn' cc, .int .u64 (sq : Int), .bool sr, .bool sf] 54)).alloc (.cells #[.bool false, .slice none 0 0, .slice none 0 0, .int .u64 0, .bool false, .bool false] 54)).alloc (.cells #[.bool true, .slice ba bn bc, .slice ca cn' cc, .int .u64 ((sq : Int) + 1), .bool sr, .bool sf] 54)).alloc (.cells #[.slice ak 32 ck, .slice an 12 cn, .slice ab nb cb, .slice at' nt ct, .slice none 0 0] 144)) (w.heap.size + 1 + 1) [.bool true, .slice ba bn bc, .slice ca cn' cc, .int .u64 ((sq : Int) + 1), .bool sr, .bool sf] 54 := (Blk.newAt ((w.alloc (.cells #[.bool true, .slice ba bn bc, .slice ca cn' cc, .int .u64 (sq : Int), .bool sr, .bool sf] 54)).alloc (.cells #[.bool false, .slice none 0 0, .slice none 0 0, .int .u64 0, .bool false, .bool false] 54)) _ _ _ (by simp) _ rfl).old _
    have B14 : Blk ((((w.alloc (.cells #[.bool true, .slice ba bn bc, .slice ca cn' cc, .int .u64 (sq : Int), .bool sr, .bool sf] 54)).alloc (.cells #[.bool false, .slice none 0 0, .slice none 0 0, .int .u64 0, .bool false, .bool false] 54)).alloc (.cells #[.bool true, .slice ba bn bc, .slice ca cn' cc, .int .u64 ((sq : Int) + 1), .bool sr, .bool sf] 54)).alloc (.cells #[.slice ak 32 ck, .slice an 12 cn, .slice ab nb cb, .slice at' nt ct, .slice none 0 0] 144)) (w.heap.size + 1 + 1 + 1) [.slice ak 32 ck, .slice an 12 cn, .slice ab nb cb, .slice at' nt ct, .slice none 0 0] 144 := Blk.newAt (((w.alloc (.cells #[.bool true, .slice ba bn bc, .slice ca cn' cc, .int .u64 (sq : Int), .bool sr, .bool sf] 54)).alloc (.cells #[.bool false, .slice none 0 0, .slice none 0 0, .int .u64 0, .bool false, .bool false] 54)).alloc (.cells #[.bool true, .slice ba bn bc, .slice ca cn' cc, .int .u64 ((sq : Int) + 1), .bool sr, .bool sf] 54)) _ _ _ (by simp) _ rfl
    rw [← hx14] at B14 ⊢
    rw [← hx13] at B13 ⊢
    rw [← hx10] at B10 ⊢
    rw [← hx5]
    have hxx : x10 < x13 ∧ x13 < x14 ∧ w.heap.size ≤ x10 := by omega
    clear hx5 hx10 hx13 hx14
    generalize (((w.alloc (.cells #[.bool true, .slice ba bn bc, .slice ca cn' cc, .int .u64 (sq : Int), .bool sr, .bool sf] 54)).alloc (.cells #[.bool false, .slice none 0 0, .slice none 0 0, .int .u64 0, .bool false, .bool false] 54)).alloc (.cells #[.bool true, .slice ba bn bc, .slice ca cn' cc, .int .u64 ((sq : Int) + 1), .bool sr, .bool sf] 54)).alloc (.cells #[.slice ak 32 ck, .slice an 12 cn, .slice ab nb cb, .slice at' nt ct, .slice none 0 0] 144) = w1 at *
    have c133 : w1.cell? ⟨x13, 3, none⟩ = some (.int .u64 ((sq : Int) + 1)) := B13.cell 3
    have l13 := B13.lt
    have hsq : (sq : Int) + 1 ≤ 1000001 := by omega
    go_wp2_with fail
    refine (rNoise ((sq : Int) + 1) ((nt : Int) + 16) w1 (by omega) (by omega) (by omega) (by omega)).mono ?_
    rintro e w2 ⟨az, mz, cz, rfl, oz, hbz⟩
    rw [show ((sq : Int) + 1).toNat = sq + 1 from by omega, show ((nt : Int) + 16).toNat = nt + 16 from by omega, ← HM.out.1] at oz
    have q2 : Below w.heap.size w w2 := q1.trans (hbz.mono q1.size)
    have hbz1 := hbz
    clear c133 l13 hsq
    obtain ⟨Z, hZ⟩ : ∃ Z, Z = SeaS.made ⟨true, sb, sk, sq, sr, sf⟩ k n b t := ⟨_, rfl⟩
    rw [← hZ] at oz
    have HZZ : Hid (Z = SeaS.made ⟨true, sb, sk, sq, sr, sf⟩ k n b t) := hZ
    have B142 := B14.below hbz1 B14.lt
    have c144 : w2.cell? ⟨x14, 4, none⟩ = some (.slice none 0 0) := B142.cell 4
    have f144 := B142.free 4
    have l14 := B142.lt
    have k23 : Kp (fun j => j = x14) w2 (w2.setCell ⟨x14, 4, none⟩ (.slice az mz cz)) := Kp.of_grown (but_set w2 x14 4 _)
    have B143 : Hid (Blk (w2.setCell ⟨x14, 4, none⟩ (.slice az mz cz)) x14 [.slice ak 32 ck, .slice an 12 cn, .slice ab nb cb, .slice at' nt ct, .slice az mz cz] 144) := B142.setC 4 (.slice az mz cz)
    have B133 : Hid (Blk (w2.setCell ⟨x14, 4, none⟩ (.slice az mz cz)) x13 [.bool true, .slice ba bn bc, .slice ca cn' cc, .int .u64 ((sq : Int) + 1), .bool sr, .bool sf] 54) := k23.blk (B13.below hbz1 B13.lt) (by omega)
    have B103 : Hid (Blk (w2.setCell ⟨x14, 4, none⟩ (.slice az mz cz)) x10 [.bool false, .slice none 0 0, .slice none 0 0, .int .u64 0, .bool false, .bool false] 54) := k23.blk (B10.below hbz1 B10.lt) (by omega)
    have Q3 : Hid (Below w.heap.size w (w2.setCell ⟨x14, 4, none⟩ (.slice az mz cz))) := Kp.new q2 k23 fun j hj => by omega
    have hx1 : x14 < w1.heap.size := B14.lt
    have BZ : Hid (BA (Off A x10) (w2.setCell ⟨x14, 4, none⟩ (.slice az mz cz)) az mz cz Z) := (BA.kp oz.ba k23 fun j hj e => by have := q1.size; omega).mono' fun j _ hj => ⟨HAA.out j (by have := q1.size; omega), by have := q1.size; omega⟩
    have R3 : Hid (RS (Off A x10) (w2.setCell ⟨x14, 4, none⟩ (.slice az mz cz)) (⟨true, sb, sk, sq + 1, sr, sf⟩ : SeaS) ⟨ba, bn, bc, ca, cn', cc⟩) := ⟨((HR.out.off (by omega)).grow Q3.out).book, ((HR.out.off (by omega)).grow Q3.out).kids⟩
    clear B142 k23 oz hbz1 B14 B13 B10 q1 q2 hZ hx1 hbz
    go_upto_region 10 with fail
    generalize w2.setCell ⟨x14, 4, none⟩ (.slice az mz cz) = w3 at *
    have B13 := B133
    have B14 := B143
    have B10 := B103
    clear B133 B143 B103 c144 f144
    have F4 : ∀ u, Kp (fun j => j = x10) w3 u → u.cell? ⟨x14, 4, none⟩ = some (.slice az mz cz) := fun u hu => (hu.blk B14.out (by omega)).cell 4
    refine regionG (S := Kp (fun j => j = x10) w3) (by kernel_rfl) (Kp.of_below (Below.refl _ w3).drew) ?_
    refine takeG 0 (some 56) (.agg ([.bool true, .slice ba bn bc, .slice ca cn' cc, .int .u64 ((sq : Int) + 1), .bool sr, .bool sf]).toArray) rfl rfl (by kernel_rfl) (by kernel_rfl) (by kernel_rfl) (fun _ _ _ h => h) (ans_row 54 (.tmp 13) _ 6 rfl (by rfl) x13 0 rfl [.bool true, .slice ba bn bc, .slice ca cn' cc, .int .u64 ((sq : Int) + 1), .bool sr, .bool sf] (fun u hu => (hu.blk B13.out (by omega)).whole) Tryz.underlying54 rfl rfl sizeRS) ?_
    simp only [Act.put, List.setIfInBounds_toArray, List.set_cons_zero, List.set_cons_succ]
    refine takeG 1 (some 57) (.agg ([.slice ak 32 ck, .slice an 12 cn, .slice ab nb cb, .slice at' nt ct, .slice az mz cz] : List Value).toArray) rfl rfl (by kernel_rfl) (by kernel_rfl) (by kernel_rfl) (fun _ _ _ h => h) (ans_row 144 (.tmp 14) _ 5 rfl (by rfl) x14 0 rfl [.slice ak 32 ck, .slice an 12 cn, .slice ab nb cb, .slice at' nt ct, .slice az mz cz] (fun u hu => (hu.blk B14.out (by omega)).whole) Tryz.underlying144 rfl rfl sizeEn5) ?_
    simp only [Act.put, List.setIfInBounds_toArray, List.set_cons_zero, List.set_cons_succ]
    refine takeG 3 (some 59) (.pointer (some ⟨x14, 4, none⟩)) rfl rfl (by kernel_rfl) (by kernel_rfl) (by kernel_rfl) (fun _ _ _ h => h) (ans_plain (by rfl) (fun w _ => by unfold execOp; go_simp)) ?_
    simp only [Act.put, List.setIfInBounds_toArray, List.set_cons_zero, List.set_cons_succ]
    refine takeG 4 (some 60) (.slice az mz cz) rfl rfl (by kernel_rfl) (by kernel_rfl) (by kernel_rfl) (fun _ _ _ h => h) (ans_plain (by rfl) (fun w h => by have hc := F4 w h; unfold execOp; go_simp)) ?_
    simp only [Act.put, List.setIfInBounds_toArray, List.set_cons_zero, List.set_cons_succ]
    refine callG 2 (some 58) 75 #[.tmp 56, .tmp 57] #[54, 144] #[rsV (⟨true, sb, sk, sq + 1, sr, sf⟩ : SeaS) ⟨ba, bn, bc, ca, cn', cc⟩, .agg #[.slice ak 32 ck, .slice an 12 cn, .slice ab nb cb, .slice at' nt ct, .slice az mz cz]] rfl rfl rfl (by rfl) (by rfl) (by kernel_rfl) Tryz.call75 fun w4 hg4 hs4 => ?_
    have q4 : Below w3.heap.size w3 w4 := Grows.ofDrew hg4
    have Q4 : Below w.heap.size w w4 := Q3.out.trans (q4.mono Q3.out.size)
    refine (rNoted12 w4 (A := Off A x10) (fun j hj => ⟨HAA.out j (Nat.le_trans Q4.size hj), by have := q4.size; have := B10.out.lt; omega⟩) (S := (⟨true, sb, sk, sq + 1, sr, sf⟩ : SeaS)) (d := ⟨ba, bn, bc, ca, cn', cc⟩) (R3.out.grow q4) ((HK.out.off (by omega)).below' Q4) ((HN.out.off (by omega)).below' Q4) ((HB.out.off (by omega)).below' Q4) ((HT.out.off (by omega)).below' Q4) (BZ.out.below' q4) HZ.out).mono ?_
    rintro e w5 ⟨d2, rfl, hR5, hb5⟩
    refine ⟨_, rfl, hs4.trans (Kp.of_below hb5), ?_⟩
    simp only [Act.put, List.setIfInBounds_toArray, List.set_cons_zero, List.set_cons_succ]
    have q5 : Below w3.heap.size w3 w5 := q4.trans (hb5.mono q4.size)
    refine oneG 5 (by kernel_rfl) fun w6 hg6 hs6 => ?_
    have q6 : Below w3.heap.size w3 w6 := q5.trans (Below.mono hg6 q5.size)
    refine opStR 5 54 (.tmp 10) (.tmp 58) 6 rfl rfl rfl rfl x10 [.bool false, .slice none 0 0, .slice none 0 0, .int .u64 0, .bool false, .bool false] (rsC ((⟨true, sb, sk, sq + 1, sr, sf⟩ : SeaS).noted k n b t Z) d2) 54 (B10.out.below q6 B10.out.lt) rfl rfl (rsC_one _ _) sizeRS rfl rfl fun w7 B7 k7 => ?_
    refine ⟨hs6.trans k7, ?_⟩
    refine takeG 6 (some 11) (.slice az mz cz) rfl rfl (by kernel_rfl) (by kernel_rfl) (by kernel_rfl) (fun _ _ _ h => h) (ans_plain (by rfl) (fun w _ => rfl)) ?_
    simp only [Act.put, List.setIfInBounds_toArray, List.set_cons_zero, List.set_cons_succ]
    refine takeG 7 (some 12) (.int .i64 0) rfl rfl (by kernel_rfl) (by kernel_rfl) (by kernel_rfl) (fun _ _ _ h => h) (ans_plain (by rfl) (fun w _ => rfl)) ?_
    simp only [Act.put, List.setIfInBounds_toArray, List.set_cons_zero, List.set_cons_succ]
    refine doneG (by kernel_rfl) fun w8 hg8 hs8 => ?_
    have hx : w.heap.size ≤ x10 := by omega
    have Q6 : Below w.heap.size w w6 := Q3.out.trans (q6.mono Q3.out.size)
    have Q8 : Hid (Below w.heap.size w w8) := Below.trans (Kp.new Q6 k7 fun j hj => by omega) (Below.mono hg8 (Below.size (Kp.new Q6 k7 fun j hj => by omega)))
    have q58 : Kp (fun j => j = x10) w5 w8 := ((Kp.of_below hg6).trans k7).trans (Kp.of_below hg8)
    have lx10 : x10 < w3.heap.size := B10.out.lt
    have B8 : Hid (Blk w8 x10 (rsC ((⟨true, sb, sk, sq + 1, sr, sf⟩ : SeaS).noted k n b t Z) d2) 54) := B7.grows hg8
    have R8 : Hid (RS A w8 ((⟨true, sb, sk, sq + 1, sr, sf⟩ : SeaS).noted k n b t Z) d2) := (hR5.kp q58 fun j hj e => hj.2 e).mono fun j _ hj => hj.1
    have Z8 : Hid (BA A w8 az mz cz Z) := ((BZ.out.below' q5).kp q58 fun j hj e => hj.2 e).mono' fun j _ hj => hj.1
    clear hR5 hb5 hs4 hg4 q4 Q4 q5 hg6 hs6 q6 B7 k7 hg8 hs8 Q6 q58 F4
    go_wp2_with fail
    refine bodyPost_ret (v := .tuple #[rsV ((⟨true, sb, sk, sq + 1, sr, sf⟩ : SeaS).noted k n b t Z) d2, .slice az mz cz, .int .i64 0]) (resCTT12 Tryz.results37 _ _ x10 _ rfl (run_loadVar_row _ x10 54 54 _ (0, 0) _ B8.out Tryz.underlying54 rfl sizeRS) _ _ rfl rfl) rfl ?_
    exact ⟨d2, az, mz, cz, by rw [HSN.out, HM.out.2, ← HZZ.out], by rw [HSN.out, HM.out.2, ← HZZ.out]; exact R8.out, by rw [← HZZ.out]; exact Z8.out, Q8.out⟩

end Go.Proofs.YtlenmkhmkommcaaGreat

/-
  The contract of layer 16's reference's Apply. Conditions: a disk that is not too full.
-/
namespace Go.Proofs.YtlenmkhmkommcaaGreat
open Go.RowKit
set_option linter.unusedVariables false

theorem sizeDk : (Tryz.prog.info? 42).map (·.size) = some 10 := by kernel_rfl
theorem RD.off {A : Nat → Prop} {w : World} {x : Nat} {D : DskS} {q : Quad} (h : RD A w D q) (hx : w.heap.size ≤ x) : RD (Off A x) w D q := h.mono fun j hj ha => ⟨ha, by omega⟩
theorem B5.off {A : Nat → Prop} {w : World} {x : Nat} {p : Option Addr} {m q : Nat} {l : List UInt8} (h : B5 A w p m q l) (hx : w.heap.size ≤ x) : B5 (Off A x) w p m q l := h.mono fun j hj ha => ⟨ha, by omega⟩
/-- A of blocks, but for two. -/
def Less2 (A : Nat → Prop) (x y : Nat) : Nat → Prop := fun j => A j ∧ j ≠ x ∧ j ≠ y
/-- Behind one write: the disk in a new variable. -/
def MidA (A : Nat → Prop) (wr wx : World) (g : Nat) (D : DskS) (q : Quad) : Prop := Blk wx g (dc D q) 42 ∧ RD A wx D q ∧ Below wr.heap.size wr wx ∧ wr.heap.size ≤ g
/-- What Apply answers. -/
def AplR (A : Nat → Prop) (R : DskS × Int) (w : World) (e : Ending) (w' : World) : Prop := ∃ q', e = .returned (.tuple #[dv R.1 q', .int .i64 R.2]) ∧ RD A w' R.1 q' ∧ Below w.heap.size w w'

set_option maxRecDepth 100000 in
set_option maxHeartbeats 8000000 in
theorem rApply16 (w : World) {A : Nat → Prop} (hA : ∀ j, w.heap.size ≤ j → A j) {D : DskS} {q : Quad} (h : RD A w D q) {mm : Nat} (hf : D.fit mm) {a : Option Addr} {n c : Nat} {l : List Chg} (hl : Imgs A w a n c l) (hm : mm + 3 * n ≤ 4000) :
    Calls Tryz.prog 28 #[dv D q, .slice a n c] w (AplR A (applyD D l) w) := by
  have HAA : Hid (∀ j, w.heap.size ≤ j → A j) := hA
  have HR : Hid (RD A w D q) := h
  have HF : Hid (D.fit mm) := hf
  have HI : Hid (Imgs A w a n c l) := hl
  have HL : Hid (l.length = n) := Sl.len hl
  have hmax := Sl.cap hl
  have hn5 : n ≤ 5000 := by omega
  obtain ⟨P, hP⟩ : ∃ P, P = AplR A (applyD D l) w := ⟨_, rfl⟩
  have HP : Hid (P = AplR A (applyD D l) w) := hP
  rw [← hP]
  clear h hf hl hA hP
  have B4 : Hid (Blk (((w.alloc (.cells #[.int .i64 (D.p.steps : Int), .int .i64 D.p.fuse, .bool D.p.done, .bool D.p.down, .int .i64 D.n, .slice q.sa q.sn q.sc, .slice q.la q.ln q.lc, .slice q.ta q.tn q.tc, .slice q.pa q.pn q.pq, .int .i64 (D.steps : Int)] 42)).alloc (.cells #[.int .i64 0, .int .i64 0, .bool false, .bool false, .int .i64 0, .slice none 0 0, .slice none 0 0, .slice none 0 0, .slice none 0 0, .int .i64 0] 42)).alloc (.cells #[.int .i64 (D.p.steps : Int), .int .i64 D.p.fuse, .bool D.p.done, .bool D.p.down, .int .i64 D.n, .slice q.sa q.sn q.sc, .slice q.la q.ln q.lc, .slice q.ta q.tn q.tc, .slice q.pa q.pn q.pq, .int .i64 (D.steps : Int)] 42)) (w.heap.size + 1) z40 42) := by
    have := (Blk.new (w.alloc (.cells #[.int .i64 (D.p.steps : Int), .int .i64 D.p.fuse, .bool D.p.done, .bool D.p.down, .int .i64 D.n, .slice q.sa q.sn q.sc, .slice q.la q.ln q.lc, .slice q.ta q.tn q.tc, .slice q.pa q.pn q.pq, .int .i64 (D.steps : Int)] 42)) #[.int .i64 0, .int .i64 0, .bool false, .bool false, .int .i64 0, .slice none 0 0, .slice none 0 0, .slice none 0 0, .slice none 0 0, .int .i64 0] 42).old (.cells #[.int .i64 (D.p.steps : Int), .int .i64 D.p.fuse, .bool D.p.done, .bool D.p.down, .int .i64 D.n, .slice q.sa q.sn q.sc, .slice q.la q.ln q.lc, .slice q.ta q.tn q.tc, .slice q.pa q.pn q.pq, .int .i64 (D.steps : Int)] 42)
    rwa [show (w.alloc (.cells #[.int .i64 (D.p.steps : Int), .int .i64 D.p.fuse, .bool D.p.done, .bool D.p.down, .int .i64 D.n, .slice q.sa q.sn q.sc, .slice q.la q.ln q.lc, .slice q.ta q.tn q.tc, .slice q.pa q.pn q.pq, .int .i64 (D.steps : Int)] 42)).heap.size = w.heap.size + 1 from by simp] at this
  have B6 : Hid (Blk (((w.alloc (.cells #[.int .i64 (D.p.steps : Int), .int .i64 D.p.fuse, .bool D.p.done, .bool D.p.down, .int .i64 D.n, .slice q.sa q.sn q.sc, .slice q.la q.ln q.lc, .slice q.ta q.tn q.tc, .slice q.pa q.pn q.pq, .int .i64 (D.steps : Int)] 42)).alloc (.cells #[.int .i64 0, .int .i64 0, .bool false, .bool false, .int .i64 0, .slice none 0 0, .slice none 0 0, .slice none 0 0, .slice none 0 0, .int .i64 0] 42)).alloc (.cells #[.int .i64 (D.p.steps : Int), .int .i64 D.p.fuse, .bool D.p.done, .bool D.p.down, .int .i64 D.n, .slice q.sa q.sn q.sc, .slice q.la q.ln q.lc, .slice q.ta q.tn q.tc, .slice q.pa q.pn q.pq, .int .i64 (D.steps : Int)] 42)) (w.heap.size + 2) (dc D q) 42) := by
    have := Blk.new ((w.alloc (.cells #[.int .i64 (D.p.steps : Int), .int .i64 D.p.fuse, .bool D.p.done, .bool D.p.down, .int .i64 D.n, .slice q.sa q.sn q.sc, .slice q.la q.ln q.lc, .slice q.ta q.tn q.tc, .slice q.pa q.pn q.pq, .int .i64 (D.steps : Int)] 42)).alloc (.cells #[.int .i64 0, .int .i64 0, .bool false, .bool false, .int .i64 0, .slice none 0 0, .slice none 0 0, .slice none 0 0, .slice none 0 0, .int .i64 0] 42)) #[.int .i64 (D.p.steps : Int), .int .i64 D.p.fuse, .bool D.p.done, .bool D.p.down, .int .i64 D.n, .slice q.sa q.sn q.sc, .slice q.la q.ln q.lc, .slice q.ta q.tn q.tc, .slice q.pa q.pn q.pq, .int .i64 (D.steps : Int)] 42
    rwa [size2] at this
  have QW : Hid (Below w.heap.size w (((w.alloc (.cells #[.int .i64 (D.p.steps : Int), .int .i64 D.p.fuse, .bool D.p.done, .bool D.p.down, .int .i64 D.n, .slice q.sa q.sn q.sc, .slice q.la q.ln q.lc, .slice q.ta q.tn q.tc, .slice q.pa q.pn q.pq, .int .i64 (D.steps : Int)] 42)).alloc (.cells #[.int .i64 0, .int .i64 0, .bool false, .bool false, .int .i64 0, .slice none 0 0, .slice none 0 0, .slice none 0 0, .slice none 0 0, .int .i64 0] 42)).alloc (.cells #[.int .i64 (D.p.steps : Int), .int .i64 D.p.fuse, .bool D.p.done, .bool D.p.down, .int .i64 D.n, .slice q.sa q.sn q.sc, .slice q.la q.ln q.lc, .slice q.ta q.tn q.tc, .slice q.pa q.pn q.pq, .int .i64 (D.steps : Int)] 42))) := below3 w _ _ _
  show Calls Tryz.prog _ #[.agg #[.int .i64 (D.p.steps : Int), .int .i64 D.p.fuse, .bool D.p.done, .bool D.p.down, .int .i64 D.n, .slice q.sa q.sn q.sc, .slice q.la q.ln q.lc, .slice q.ta q.tn q.tc, .slice q.pa q.pn q.pq, .int .i64 (D.steps : Int)], _] w _
  go_enter Tryz.func28, Tryz.ntmps28
  go_wp2_with fail
  obtain ⟨xR, hR⟩ : ∃ x, x = w.heap.size + 1 := ⟨_, rfl⟩
  obtain ⟨xX, hX⟩ : ∃ x, x = w.heap.size + 2 := ⟨_, rfl⟩
  first | rw [show w.heap.size + 1 + 1 = w.heap.size + 2 from rfl] | skip
  rw [← hR] at B4
  rw [← hX] at B6
  rw [← hX, ← hR]
  have HX : Hid (xR = w.heap.size + 1 ∧ xX = w.heap.size + 2) := ⟨hR, hX⟩
  clear hR hX
  generalize ((w.alloc (.cells #[.int .i64 (D.p.steps : Int), .int .i64 D.p.fuse, .bool D.p.done, .bool D.p.down, .int .i64 D.n, .slice q.sa q.sn q.sc, .slice q.la q.ln q.lc, .slice q.ta q.tn q.tc, .slice q.pa q.pn q.pq, .int .i64 (D.steps : Int)] 42)).alloc (.cells #[.int .i64 0, .int .i64 0, .bool false, .bool false, .int .i64 0, .slice none 0 0, .slice none 0 0, .slice none 0 0, .slice none 0 0, .int .i64 0] 42)).alloc (.cells #[.int .i64 (D.p.steps : Int), .int .i64 D.p.fuse, .bool D.p.done, .bool D.p.down, .int .i64 D.n, .slice q.sa q.sn q.sc, .slice q.la q.ln q.lc, .slice q.ta q.tn q.tc, .slice q.pa q.pn q.pq, .int .i64 (D.steps : Int)] 42) = w1 at *
  obtain ⟨A1, hA1⟩ : ∃ A1, A1 = Less2 A xR xX := ⟨_, rfl⟩
  have HB1 : Hid (∀ j, A1 j → A j ∧ j ≠ xR ∧ j ≠ xX) := fun j hj => by rw [hA1] at hj; exact hj
  have HM1 : Hid (∀ j, A j → j ≠ xR → j ≠ xX → A1 j) := fun j h1 h2 h3 => by rw [hA1]; exact ⟨h1, h2, h3⟩
  have HR1 : Hid (RD A1 w1 D q) := (HR.out.mono fun j hj ha => HM1.out j ha (by have := HX.out; omega) (by have := HX.out; omega)).below QW.out
  clear hA1
  go_loopw [7] (fun i wr => ∃ (k : Nat) (D1 : DskS) (q1 : Quad), k ≤ n ∧ i = .int .i64 (k : Int) ∧ Hid (RD A1 wr D1 q1) ∧ Hid (Blk wr xX (dc D1 q1) 42) ∧ Hid (Blk wr xR z40 42) ∧ Hid (Below w.heap.size w wr) ∧ Hid (D1.fit (mm + 3 * k)) ∧ Hid (applyD D l = applyD D1 (l.drop k))) (fun i _ => n - (intOf i).toNat)
  case atStart => exact ⟨0, D, q, Nat.zero_le _, rfl, HR1, B6, B4, QW, HF.out.a_mono (by omega), rfl⟩
  case round =>
    obtain ⟨k, D1, q1, hk, rfl, R1, X1, Y1, Q1, F1, E1⟩ := hrel
    clear B4 B6 HR1 HF
    by_cases hlt : k < n
    · have j0 : (k : Int) < (n : Int) := by omega
      have i3 : (0 : Int) ≤ (k : Int) := by omega
      obtain ⟨x, hx⟩ : ∃ x, l[k]? = some x := ⟨_, List.getElem?_eq_getElem (by rw [HL.out]; exact hlt)⟩
      obtain ⟨b, o, p, m, q3, ha, hlb0, hAb, hrg, hB5, hi⟩ := HI.out.at hx
      have hlb : b < wr.heap.size := Nat.lt_of_lt_of_le hlb0 Q1.out.size
      have x0 : w.cell? ⟨b, o + k * 2, none⟩ = some (.int .i64 x.1) := by have := hrg 0 _ rfl; rwa [Nat.add_zero] at this
      have x1 : w.cell? ⟨b, o + k * 2 + 1, none⟩ = some (.slice p m q3) := hrg 1 _ rfl
      have HN1 : Hid (∀ j, wr.heap.size ≤ j → A1 j) := fun j hj => HM1.out j (HAA.out j (Nat.le_trans Q1.out.size hj)) (by have := Y1.out.lt; omega) (by have := X1.out.lt; omega)
      have hdl : l.drop k = x :: l.drop (k + 1) := by
        obtain ⟨hkl, ex⟩ := List.getElem?_eq_some_iff.1 hx
        rw [List.drop_eq_getElem_cons hkl, ex]
      have EN : Hid (applyD D l = if (D1.write x.1 x.2).2 = 0 then applyD (D1.write x.1 x.2).1 (l.drop (k + 1)) else D1.write x.1 x.2) := by
        show _ = _
        rw [E1.out, hdl]
        rfl
      have F2 : Hid ((D1.write x.1 x.2).1.fit (mm + 3 * (k + 1))) := (F1.out.a_write x.1 x.2).a_mono (by omega)
      have H5 : Hid (B5 A1 w p m q3 x.2) := hB5.mono fun j hj ha => HM1.out j ha (by have := HX.out; omega) (by have := HX.out; omega)
      obtain ⟨xa, xb⟩ := x
      dsimp only at x0 x1 EN F2 H5 hi
      subst ha
      have X0 : ∀ u, Grows wr u → u.cell? ⟨b, o + k * 2, none⟩ = some (.int .i64 xa) := fun u h => ((Q1.out.trans (Below.mono h Q1.out.size)).cell (p := ⟨b, o + k * 2, none⟩) hlb0).trans x0
      have X1c : ∀ u, Grows wr u → u.cell? ⟨b, o + k * 2 + 1, none⟩ = some (.slice p m q3) := fun u h => ((Q1.out.trans (Below.mono h Q1.out.size)).cell (p := ⟨b, o + k * 2 + 1, none⟩) hlb0).trans x1
      have HB : Hid (∀ u, Grows wr u → B5 A1 u p m q3 xb) := fun u h => H5.out.below (Q1.out.trans (Below.mono h Q1.out.size))
      obtain ⟨D2, hD2⟩ : ∃ D2, D2 = (D1.write xa xb).1 := ⟨_, rfl⟩
      obtain ⟨z, hz⟩ : ∃ z, z = (D1.write xa xb).2 := ⟨_, rfl⟩
      have CWR : Hid (∀ u, Grows wr u → ∀ A' : Nat → Prop, (∀ j, u.heap.size ≤ j → A' j) → RD A' u D1 q1 → B5 A' u p m q3 xb → Calls Tryz.prog 41 #[dv D1 q1, .int .i64 xa, .slice p m q3] u fun e w' => ∃ q', e = .returned (.tuple #[dv D2 q', .int .i64 z]) ∧ RD A' w' D2 q' ∧ Below u.heap.size u w') := fun u hu A' h1 h2 h3 => by
        rw [hD2, hz]
        exact rWrite u h2 h1 F1.out (by omega) xa hi h3
      have EN2 : Hid (applyD D l = if z = 0 then applyD D2 (l.drop (k + 1)) else (D2, z)) := by
        show _ = _
        rw [hD2, hz]
        exact EN.out
      rw [← hD2] at F2
      clear hrg hB5 hi hx x0 x1 hdl hD2 hz EN H5 E1
      go_upto_region 5 with fail
      go_cut [8, 9] from 17 to 31 (fun pv cv wx => ∃ (g : Nat) (q2 : Quad), pv = .pointer (some ⟨g, 0, none⟩) ∧ cv = .int .i64 z ∧ Hid (MidA A1 wr wx g D2 q2))
      case first =>
          refine regionG (S := Grows wr) (by kernel_rfl) (Below.refl _ wr).drew ?_
          refine takeG 0 (some 18) (dv D1 q1) rfl rfl (by kernel_rfl) (by kernel_rfl) (by kernel_rfl) (fun _ _ _ h => h) (ans_row 42 (.tmp 6) _ 10 rfl (by rfl) xX 0 rfl (dc D1 q1) (fun u h => (X1.out.below h X1.out.lt).whole) Tryz.underlying42 rfl rfl sizeDk) ?_
          simp only [Act.put, List.setIfInBounds_toArray, List.set_cons_zero, List.set_cons_succ]
          refine takeG 1 (some 19) (.slice (some ⟨b, o, none⟩) n c) rfl rfl (by kernel_rfl) (by kernel_rfl) (by kernel_rfl) (fun _ _ _ h => h) (ans_plain (by rfl) (fun w _ => rfl)) ?_
          simp only [Act.put, List.setIfInBounds_toArray, List.set_cons_zero, List.set_cons_succ]
          refine takeG 2 (some 20) (.int .i64 (k : Int)) rfl rfl (by kernel_rfl) (by kernel_rfl) (by kernel_rfl) (fun _ _ _ h => h) (ans_plain (by rfl) (fun w _ => rfl)) ?_
          simp only [Act.put, List.setIfInBounds_toArray, List.set_cons_zero, List.set_cons_succ]
          refine takeG 3 (some 21) (.pointer (some ⟨b, o + k * 2, none⟩)) rfl rfl (by kernel_rfl) (by kernel_rfl) (by kernel_rfl) (fun _ _ _ h => h) (ans_plain (by rfl) (fun w _ => by unfold execOp; go_simp)) ?_
          simp only [Act.put, List.setIfInBounds_toArray, List.set_cons_zero, List.set_cons_succ]
          refine takeG 4 (some 22) (.pointer (some ⟨b, o + k * 2, none⟩)) rfl rfl (by kernel_rfl) (by kernel_rfl) (by kernel_rfl) (fun _ _ _ h => h) (ans_plain (by rfl) (fun w _ => by unfold execOp; go_simp)) ?_
          simp only [Act.put, List.setIfInBounds_toArray, List.set_cons_zero, List.set_cons_succ]
          refine takeG 5 (some 23) (.int .i64 xa) rfl rfl (by kernel_rfl) (by kernel_rfl) (by kernel_rfl) (fun _ _ _ h => h) (ans_plain (by rfl) (fun w h => by have hc := X0 w h; unfold execOp; go_simp)) ?_
          simp only [Act.put, List.setIfInBounds_toArray, List.set_cons_zero, List.set_cons_succ]
          refine takeG 6 (some 24) (.slice (some ⟨b, o, none⟩) n c) rfl rfl (by kernel_rfl) (by kernel_rfl) (by kernel_rfl) (fun _ _ _ h => h) (ans_plain (by rfl) (fun w _ => rfl)) ?_
          simp only [Act.put, List.setIfInBounds_toArray, List.set_cons_zero, List.set_cons_succ]
          refine takeG 7 (some 25) (.int .i64 (k : Int)) rfl rfl (by kernel_rfl) (by kernel_rfl) (by kernel_rfl) (fun _ _ _ h => h) (ans_plain (by rfl) (fun w _ => rfl)) ?_
          simp only [Act.put, List.setIfInBounds_toArray, List.set_cons_zero, List.set_cons_succ]
          refine takeG 8 (some 26) (.pointer (some ⟨b, o + k * 2, none⟩)) rfl rfl (by kernel_rfl) (by kernel_rfl) (by kernel_rfl) (fun _ _ _ h => h) (ans_plain (by rfl) (fun w _ => by unfold execOp; go_simp)) ?_
          simp only [Act.put, List.setIfInBounds_toArray, List.set_cons_zero, List.set_cons_succ]
          refine takeG 9 (some 27) (.pointer (some ⟨b, o + k * 2 + 1, none⟩)) rfl rfl (by kernel_rfl) (by kernel_rfl) (by kernel_rfl) (fun _ _ _ h => h) (ans_plain (by rfl) (fun w _ => by unfold execOp; go_simp)) ?_
          simp only [Act.put, List.setIfInBounds_toArray, List.set_cons_zero, List.set_cons_succ]
          refine takeG 10 (some 28) (.slice p m q3) rfl rfl (by kernel_rfl) (by kernel_rfl) (by kernel_rfl) (fun _ _ _ h => h) (ans_plain (by rfl) (fun w h => by have hc := X1c w h; unfold execOp; go_simp)) ?_
          simp only [Act.put, List.setIfInBounds_toArray, List.set_cons_zero, List.set_cons_succ]
          refine fork2G 11 15 (by kernel_rfl) (fun v1 hv1 sv1 => ?_) (fun v1 hv1 sv1 => ?_)
          · refine opCallW 11 (some 29) 41 #[.tmp 18, .tmp 23, .tmp 28] #[42, 3, 26] #[dv D1 q1, .int .i64 xa, .slice p m q3] rfl rfl rfl (by rfl) (by rfl) Tryz.call41 ?_
            refine (CWR.out v1 sv1 A1 (fun i hi => HN1.out i (Nat.le_trans (Below.size sv1) hi)) (R1.out.below sv1) (HB.out v1 sv1)).mono ?_
            rintro e v2 ⟨q2, rfl, R2, hb2⟩
            refine ⟨_, rfl, Grows.trans sv1 hb2, ?_⟩
            simp only [Act.put, List.setIfInBounds_toArray, List.set_cons_zero, List.set_cons_succ]
            refine takeG 12 (some 17) (.tuple #[dv D2 q2, .int .i64 z]) rfl rfl (by kernel_rfl) (by kernel_rfl) (by kernel_rfl) (fun _ _ _ h => h) (ans_plain (by rfl) (fun w _ => rfl)) ?_
            simp only [Act.put, List.setIfInBounds_toArray, List.set_cons_zero, List.set_cons_succ]
            refine takeG 13 (some 30) (dv D2 q2) rfl rfl (by kernel_rfl) (by kernel_rfl) (by kernel_rfl) (fun _ _ _ h => h) (ans_plain (by rfl) (fun w _ => by unfold execOp; go_simp)) ?_
            simp only [Act.put, List.setIfInBounds_toArray, List.set_cons_zero, List.set_cons_succ]
            refine takeG 14 (some 31) (.int .i64 z) rfl rfl (by kernel_rfl) (by kernel_rfl) (by kernel_rfl) (fun _ _ _ h => h) (ans_plain (by rfl) (fun w _ => by unfold execOp; go_simp)) ?_
            simp only [Act.put, List.setIfInBounds_toArray, List.set_cons_zero, List.set_cons_succ]
            refine alloc1 (fun _ _ h h2 => Grows.trans h h2) 15 8 ⟨_, rfl, rfl, rfl, fun ρ w => rfl⟩ (by kernel_rfl) fun g v5 hg5 sv5 Bg hgx => ?_
            have R2 := (RD.off R2 hgx).below hg5
            have hgw : wr.heap.size ≤ g := Nat.le_trans (Below.size (Grows.trans sv1 hb2)) hgx
            simp only [Act.put, List.setIfInBounds_toArray, List.set_cons_zero, List.set_cons_succ]
            refine oneG 16 (by kernel_rfl) fun v6 hg6 sv6 => ?_
            have R2 := R2.below hg6
            have Bg := Bg.below hg6 Bg.lt
            refine opStR 16 42 (.tmp 8) (.tmp 30) 10 rfl rfl rfl rfl g _ (dc D2 q2) 42 Bg rfl rfl (dc_one _ _) sizeDk rfl rfl fun v7 b9 k9 => ?_
            have hs9 : Grows wr v7 := Below.trans sv6 (k9.below (B := wr.heap.size) (Below.size sv6) (fun i hi e => by omega))
            have R2 := R2.kp k9 fun i hi e => hi.2 e
            refine ⟨hs9, ?_⟩
            refine takeG 17 (some 9) (.int .i64 z) rfl rfl (by kernel_rfl) (by kernel_rfl) (by kernel_rfl) (fun _ _ _ h => h) (ans_plain (by rfl) (fun w _ => rfl)) ?_
            simp only [Act.put, List.setIfInBounds_toArray, List.set_cons_zero, List.set_cons_succ]
            refine doneG (by kernel_rfl) fun v8 hgz hsz => ?_
            have M9 : Hid (MidA A1 wr v8 g D2 q2) := ⟨b9.below hgz b9.lt, (R2.mono fun i _ hi => hi.1).below hgz, hsz, hgw⟩
            clear R2 b9 k9 hs9 hgz hsz
            go_wp2_with fail
            go_meet
            case rel => exact ⟨g, q2, rfl, rfl, M9⟩
          · refine opMake (fun _ _ h h2 => Grows.trans h h2) ⟨_, rfl, rfl, rfl, fun ρ w => rfl⟩ sv1 fun g v3 hv3 sv3 Bg hgx => ?_
            have hgw : wr.heap.size ≤ g := Nat.le_trans (Below.size sv1) hgx
            simp only [Act.put, List.setIfInBounds_toArray, List.set_cons_zero, List.set_cons_succ]
            refine callG 11 (some 29) 41 #[.tmp 18, .tmp 23, .tmp 28] #[42, 3, 26] #[dv D1 q1, .int .i64 xa, .slice p m q3] rfl rfl rfl (by rfl) (by rfl) (by kernel_rfl) Tryz.call41 fun v4 hv4 sv4 => ?_
            have Bg := Bg.below hv4 Bg.lt
            refine (CWR.out v4 sv4 (Off A1 g) (fun i hi => ⟨HN1.out i (Nat.le_trans (Below.size sv4) hi), by have := Bg.lt; omega⟩) ((RD.off R1.out hgw).below sv4) ((B5.off (HB.out wr (Below.refl _ _)) hgw).below sv4)).mono ?_
            rintro e v2 ⟨q2, rfl, R2, hb2⟩
            have Bg := Bg.below hb2 Bg.lt
            refine ⟨_, rfl, Grows.trans sv4 hb2, ?_⟩
            simp only [Act.put, List.setIfInBounds_toArray, List.set_cons_zero, List.set_cons_succ]
            refine takeG 12 (some 17) (.tuple #[dv D2 q2, .int .i64 z]) rfl rfl (by kernel_rfl) (by kernel_rfl) (by kernel_rfl) (fun _ _ _ h => h) (ans_plain (by rfl) (fun w _ => rfl)) ?_
            simp only [Act.put, List.setIfInBounds_toArray, List.set_cons_zero, List.set_cons_succ]
            refine takeG 13 (some 30) (dv D2 q2) rfl rfl (by kernel_rfl) (by kernel_rfl) (by kernel_rfl) (fun _ _ _ h => h) (ans_plain (by rfl) (fun w _ => by unfold execOp; go_simp)) ?_
            simp only [Act.put, List.setIfInBounds_toArray, List.set_cons_zero, List.set_cons_succ]
            refine takeG 14 (some 31) (.int .i64 z) rfl rfl (by kernel_rfl) (by kernel_rfl) (by kernel_rfl) (fun _ _ _ h => h) (ans_plain (by rfl) (fun w _ => by unfold execOp; go_simp)) ?_
            simp only [Act.put, List.setIfInBounds_toArray, List.set_cons_zero, List.set_cons_succ]
            refine oneG 16 (by kernel_rfl) fun v6 hg6 sv6 => ?_
            have R2 := R2.below hg6
            have Bg := Bg.below hg6 Bg.lt
            refine opStR 16 42 (.tmp 8) (.tmp 30) 10 rfl rfl rfl rfl g _ (dc D2 q2) 42 Bg rfl rfl (dc_one _ _) sizeDk rfl rfl fun v7 b9 k9 => ?_
            have hs9 : Grows wr v7 := Below.trans sv6 (k9.below (B := wr.heap.size) (Below.size sv6) (fun i hi e => by omega))
            have R2 := R2.kp k9 fun i hi e => hi.2 e
            refine ⟨hs9, ?_⟩
            refine takeG 17 (some 9) (.int .i64 z) rfl rfl (by kernel_rfl) (by kernel_rfl) (by kernel_rfl) (fun _ _ _ h => h) (ans_plain (by rfl) (fun w _ => rfl)) ?_
            simp only [Act.put, List.setIfInBounds_toArray, List.set_cons_zero, List.set_cons_succ]
            refine doneG (by kernel_rfl) fun v8 hgz hsz => ?_
            have M9 : Hid (MidA A1 wr v8 g D2 q2) := ⟨b9.below hgz b9.lt, (R2.mono fun i _ hi => hi.1).below hgz, hsz, hgw⟩
            clear R2 b9 k9 hs9 hgz hsz
            go_wp2_with fail
            go_meet
            case rel => exact ⟨g, q2, rfl, rfl, M9⟩
      case rest =>
        obtain ⟨g, q2, rfl, rfl, M9⟩ := hcut
        have XC : Hid (Blk wc xX (dc D1 q1) 42) := X1.out.below M9.out.2.2.1 X1.out.lt
        have YC : Hid (Blk wc xR z40 42) := Y1.out.below M9.out.2.2.1 Y1.out.lt
        have QC : Hid (Below w.heap.size w wc) := Q1.out.trans (M9.out.2.2.1.mono Q1.out.size)
        have hRX : xR ≠ xX := by have := HX.out; omega
        clear X1 Y1 Q1 R1 F1 CWR HB HN1 hlb
        go_upto_region 7 with (first
          | ((with_reducible refine at_ld 42 ?_); (refine ld 42 (.tmp 8) 10 sizeDk _ Tryz.underlying42 rfl g 0 (dc D2 q2) rfl M9.out.1.whole rfl ?_))
          | ((with_reducible refine at_st 42 ?_); (refine st' 42 (.tmp 6) (.tmp 32) 10 sizeDk xX 0 (dc D2 q2) rfl (dc_one _ _) (XC.out.there 0 10 (by simp [dc])) rfl rfl ?_); intro w8 hw8
             have X8 : Hid (Blk w8 xX (dc D2 q2) 42) := by rw [hw8]; exact XC.out.setsW _ rfl
             have K8 : Hid (Kp (fun j => j = xX) wc w8) := by rw [hw8]; exact Kp.sets wc xX _ 0
             clear hw8))
        have Y8 : Hid (Blk w8 xR z40 42) := K8.out.blk YC.out hRX
        have R8 : Hid (RD A1 w8 D2 q2) := M9.out.2.1.kp K8.out fun i hi e => (HB1.out i hi).2.2 e
        have Q8 : Hid (Below w.heap.size w w8) := Kp.new QC.out K8.out fun i e => by have := HX.out; omega
        clear M9 XC YC QC K8
        by_cases z0 : z = 0
        · subst z0
          have EN3 : Hid (applyD D l = applyD D2 (l.drop (k + 1))) := by show _ = _; rw [EN2.out, if_pos rfl]
          clear EN2
          go_wp2_with fail
          go_roundw
          case rel => exact ⟨k + 1, D2, q2, by omega, by go_num, R8, X8, Y8, Q8, F2, EN3⟩
          case measure => simp [intOf]; omega
        · have EN3 : Hid (applyD D l = (D2, z)) := by show _ = _; rw [EN2.out, if_neg z0]
          clear EN2
          go_wp2_with (first
            | ((with_reducible refine at_ld 42 ?_); (refine ld 42 (.tmp 6) 10 sizeDk _ Tryz.underlying42 rfl xX 0 (dc D2 q2) rfl X8.out.whole rfl ?_))
            | ((with_reducible refine at_st 42 ?_); (refine st' 42 (.tmp 4) (.tmp 35) 10 sizeDk xR 0 (dc D2 q2) rfl (dc_one _ _) (Y8.out.there 0 10 (by simp [z40])) rfl rfl ?_); intro w9 hw9
               have Y9 : Hid (Blk w9 xR (dc D2 q2) 42) := by rw [hw9]; exact Y8.out.setsW _ rfl
               have K9 : Hid (Kp (fun j => j = xR) w8 w9) := by rw [hw9]; exact Kp.sets w8 xR _ 0
               clear hw9))
          refine bodyPost_ret (v := .tuple #[dv D2 q2, .int .i64 z]) (res2 Tryz.results28 _ _ xR (dc D2 q2).toArray rfl (run_loadVar_row w9 xR 42 42 (dc D2 q2).toArray (0, 0) _ Y9.out Tryz.underlying42 rfl sizeDk) _ rfl) rfl ?_
          rw [HP.out, EN3.out]
          exact ⟨q2, rfl, (R8.out.kp K9.out fun i hi e => (HB1.out i hi).2.1 e).mono fun i _ hi => (HB1.out i hi).1, Kp.new Q8.out K9.out fun i e => by have := HX.out; omega⟩
    · have j0 : ¬ (k : Int) < (n : Int) := by omega
      have HN1 : Hid (∀ j, wr.heap.size ≤ j → A1 j) := fun j hj => HM1.out j (HAA.out j (Nat.le_trans Q1.out.size hj)) (by have := Y1.out.lt; omega) (by have := X1.out.lt; omega)
      have EN3 : Hid (applyD D l = (D1.flushed, if D1.p.ok then 0 else 5)) := by
        show _ = _
        rw [E1.out, List.drop_of_length_le (by rw [HL.out]; omega), applyD_nil]
      obtain ⟨D2, hD2⟩ : ∃ D2, D2 = D1.flushed := ⟨_, rfl⟩
      obtain ⟨z, hz⟩ : ∃ z : Int, z = if D1.p.ok then 0 else 5 := ⟨_, rfl⟩
      have CF : Hid (Calls Tryz.prog 42 #[dv D1 q1] wr fun e w' => ∃ q', e = .returned (.tuple #[dv D2 q', .int .i64 z]) ∧ RD A1 w' D2 q' ∧ Below wr.heap.size wr w') := by
        show Calls _ _ _ _ _
        rw [hD2, hz]
        exact rFlush wr R1.out HN1.out F1.out (by omega)
      rw [← hD2, ← hz] at EN3
      clear hD2 hz E1 R1 F1
      have hRX : xR ≠ xX := by have := HX.out; omega
      go_wp2_with ((with_reducible refine at_ld 42 ?_); (refine ld 42 (.tmp 6) 10 sizeDk _ Tryz.underlying42 rfl xX 0 (dc D1 q1) rfl X1.out.whole rfl ?_))
      refine CF.out.mono ?_
      rintro e w8 ⟨q2, rfl, r8, hb8⟩
      have R8 : Hid (RD A1 w8 D2 q2) := r8
      have Y8 : Hid (Blk w8 xR z40 42) := Y1.out.below hb8 Y1.out.lt
      have Q8 : Hid (Below w.heap.size w w8) := Q1.out.trans (hb8.mono Q1.out.size)
      clear r8 hb8 X1 Y1 Q1 CF
      go_wp2_with ((with_reducible refine at_st 42 ?_); (refine st' 42 (.tmp 4) (.tmp 39) 10 sizeDk xR 0 (dc D2 q2) rfl (dc_one _ _) (Y8.out.there 0 10 (by simp [z40])) rfl rfl ?_); intro w9 hw9; have Y9 : Hid (Blk w9 xR (dc D2 q2) 42) := (by rw [hw9]; exact Y8.out.setsW _ rfl); have K9 : Hid (Kp (fun j => j = xR) w8 w9) := (by rw [hw9]; exact Kp.sets w8 xR _ 0); clear hw9)
      refine bodyPost_ret (v := .tuple #[dv D2 q2, .int .i64 z]) (res2 Tryz.results28 _ _ xR (dc D2 q2).toArray rfl (run_loadVar_row w9 xR 42 42 (dc D2 q2).toArray (0, 0) _ Y9.out Tryz.underlying42 rfl sizeDk) _ rfl) rfl ?_
      rw [HP.out, EN3.out]
      exact ⟨q2, rfl, (R8.out.kp K9.out fun i hi e => (HB1.out i hi).2.1 e).mono fun i _ hi => (HB1.out i hi).1, Kp.new Q8.out K9.out fun i e => by have := HX.out; omega⟩

end Go.Proofs.YtlenmkhmkommcaaGreat

/-
  The contract of layer 12's reference's Open; what Seal and Open answer where a key or a nonce has another size. Conditions: what stands beside and what is opened of at most 600 bytes, a book of at most a thousand things.
-/
namespace Go.Proofs.YtlenmkhmkommcaaGreat
open Go.RowKit
set_option linter.unusedVariables false

/-- What Open answers. -/
def OpensR (A : Nat → Prop) (S' : SeaS) (d : Du) (l : Option (List UInt8)) (w : World) (e : Ending) (w' : World) : Prop := ∃ a m c, e = .returned (.tuple #[rsV S' d, .slice a m c, .int .i64 (if l.isSome then 0 else 6)]) ∧ RS A w' S' d ∧ BA A w' a m c (l.getD []) ∧ Below w.heap.size w w'

set_option maxRecDepth 100000 in
set_option maxHeartbeats 1500000 in
theorem rOpen12 (w : World) {A : Nat → Prop} (hA : ∀ j, w.heap.size ≤ j → A j) {S : SeaS} {d : Du} (h : RS A w S d) {k n b s : List UInt8} {ak an ab as' : Option Addr} {ck cn nb cb ns cs' : Nat} (hk : Bs w ak 32 ck k) (hn : Bs w an 12 cn n) (hb : Bs w ab nb cb b) (hs : Bs w as' ns cs' s) (zb : nb ≤ 600) (zs : ns ≤ 600) (hz : S.book.length ≤ 1000) (hid : Hid (S.ideal = true) := by first | assumption | (show _ = _; rfl)) :
    Calls Tryz.prog 63 #[rsV S d, .slice ak 32 ck, .slice an 12 cn, .slice ab nb cb, .slice as' ns cs'] w (OpensR A (S.opened k n b s) d (S.opens k n b s) w) := by
  have HR : Hid (RS A w S d) := h
  have HK : Hid (Bs w ak 32 ck k) := hk
  have HN : Hid (Bs w an 12 cn n) := hn
  have HB : Hid (Bs w ab nb cb b) := hb
  have HC : Hid (Bs w as' ns cs' s) := hs
  have HAA : Hid (∀ j, w.heap.size ≤ j → A j) := hA
  have HZ : Hid (S.book.length ≤ 1000) := hz
  have HSL : Hid (s.length = ns) := hs.len
  have HKL : Hid ((keyF k).length = 240) := keyF_length hk.len
  have HKN : Hid (∀ u, Below w.heap.size w u → Calls Tryz.prog 97 #[rsV S d, .slice ak 32 ck, .slice an 12 cn, .slice ab nb cb, .slice as' ns cs'] u (Knows (Off A (w.heap.size + 1)) (S.known k n b s) u)) := fun u hu => rKnown12 u ((h.off (by omega)).grow hu) (hk.below hu (Nat.le_refl _)) (hn.below hu (Nat.le_refl _)) (hb.below hu (Nat.le_refl _)) (hs.below hu (Nat.le_refl _)) hz
  have HOI : Hid (S.ideal = true → S.opened k n b s = S ∧ S.opens k n b s = S.known k n b s) := fun hi => ⟨SeaS.opened_ideal hi k n b s, by unfold SeaS.opens; rw [if_pos hi]⟩
  have HOR : Hid (S.ideal = false → S.opened k n b s = { S with forged := S.forged || ((opensL k n b s).isSome && !(S.known k n b s).isSome) } ∧ S.opens k n b s = opensL k n b s) := fun hi => ⟨SeaS.opened_real hi k n b s, by unfold SeaS.opens; rw [if_neg (by rw [hi]; decide)]⟩
  clear h hk hn hb hs hA hz
  obtain ⟨kn, hkn⟩ : ∃ kn, kn = S.known k n b s := ⟨_, rfl⟩
  rw [← hkn] at HKN HOI HOR
  clear hkn
  obtain ⟨ba, bn, bc, ca, cn', cc⟩ := d
  obtain ⟨si, sb, sk, sq, sr, sf⟩ := S
  dsimp only at HZ HOI HOR
  have HKN' : Hid (∀ u, Below w.heap.size w u → Calls Tryz.prog 97 #[.agg #[.bool si, .slice ba bn bc, .slice ca cn' cc, .int .u64 (sq : Int), .bool sr, .bool sf], .slice ak 32 ck, .slice an 12 cn, .slice ab nb cb, .slice as' ns cs'] u (Knows (Off A (w.heap.size + 1)) kn u)) := HKN.out
  clear HKN
  show Calls Tryz.prog _ #[.agg #[.bool si, .slice ba bn bc, .slice ca cn' cc, .int .u64 (sq : Int), .bool sr, .bool sf], _, _, _, _] w _
  have q1 : Below w.heap.size w ((w.alloc (.cells #[.bool si, .slice ba bn bc, .slice ca cn' cc, .int .u64 (sq : Int), .bool sr, .bool sf] 54)).alloc (.cells #[.bool false, .slice none 0 0, .slice none 0 0, .int .u64 0, .bool false, .bool false] 54)) := (below_alloc w _).trans ((below_alloc _ _).mono (by simp))
  have B5 : Blk ((w.alloc (.cells #[.bool si, .slice ba bn bc, .slice ca cn' cc, .int .u64 (sq : Int), .bool sr, .bool sf] 54)).alloc (.cells #[.bool false, .slice none 0 0, .slice none 0 0, .int .u64 0, .bool false, .bool false] 54)) w.heap.size [.bool si, .slice ba bn bc, .slice ca cn' cc, .int .u64 (sq : Int), .bool sr, .bool sf] 54 := (Blk.new w _ _).old _
  have B10 : Blk ((w.alloc (.cells #[.bool si, .slice ba bn bc, .slice ca cn' cc, .int .u64 (sq : Int), .bool sr, .bool sf] 54)).alloc (.cells #[.bool false, .slice none 0 0, .slice none 0 0, .int .u64 0, .bool false, .bool false] 54)) (w.heap.size + 1) [.bool false, .slice none 0 0, .slice none 0 0, .int .u64 0, .bool false, .bool false] 54 := Blk.newAt (w.alloc (.cells #[.bool si, .slice ba bn bc, .slice ca cn' cc, .int .u64 (sq : Int), .bool sr, .bool sf] 54)) _ _ _ (by simp) _ rfl
  go_enter Tryz.func63, Tryz.ntmps63
  go_upto_region 3 with fail
  obtain ⟨x5, hx5⟩ : ∃ x, x = w.heap.size := ⟨_, rfl⟩
  obtain ⟨x10, hx10⟩ : ∃ x, x = w.heap.size + 1 := ⟨_, rfl⟩
  rw [← hx10] at B10 HKN' ⊢
  rw [← hx5] at B5 ⊢
  have hxx : x5 < x10 ∧ w.heap.size ≤ x5 := by omega
  clear hx5 hx10
  generalize (w.alloc (.cells #[.bool si, .slice ba bn bc, .slice ca cn' cc, .int .u64 (sq : Int), .bool sr, .bool sf] 54)).alloc (.cells #[.bool false, .slice none 0 0, .slice none 0 0, .int .u64 0, .bool false, .bool false] 54) = w1 at *
  go_wp2_with ((with_reducible refine at_ld 54 ?_); (refine ld 54 (.tmp 5) 6 sizeRS _ Tryz.underlying54 rfl x5 0 [.bool si, .slice ba bn bc, .slice ca cn' cc, .int .u64 (sq : Int), .bool sr, .bool sf] rfl B5.whole rfl ?_))
  refine (HKN'.out w1 q1).mono ?_
  rintro e w2 ⟨at', mt, ct, rfl, bt', hb2⟩
  have Q2 : Hid (Below w.heap.size w w2) := q1.trans (hb2.mono q1.size)
  have B52 : Hid (Blk w2 x5 [.bool si, .slice ba bn bc, .slice ca cn' cc, .int .u64 (sq : Int), .bool sr, .bool sf] 54) := B5.below hb2 B5.lt
  have B102 : Hid (Blk w2 x10 [.bool false, .slice none 0 0, .slice none 0 0, .int .u64 0, .bool false, .bool false] 54) := B10.below hb2 B10.lt
  have BT : Hid (BA (Off A x10) w2 at' mt ct (kn.getD [])) := bt'
  clear B5 B10 q1 hb2 bt' HKN'
  have c50 : w2.cell? ⟨x5, 0, none⟩ = some (.bool si) := B52.out.cell 0
  have l5 := B52.out.lt
  cases si with
  | true =>
    obtain ⟨ho1, ho2⟩ := HOI.out rfl
    have HO : Hid (SeaS.opened ⟨true, sb, sk, sq, sr, sf⟩ k n b s = ⟨true, sb, sk, sq, sr, sf⟩ ∧ SeaS.opens ⟨true, sb, sk, sq, sr, sf⟩ k n b s = kn) := ⟨ho1, ho2⟩
    clear ho1 ho2 HOI HOR
    have FIN : Hid (∀ w8 a m c, Blk w8 x10 [.bool true, .slice ba bn bc, .slice ca cn' cc, .int .u64 (sq : Int), .bool sr, .bool sf] 54 → Kp (fun j => j = x10) w2 w8 → BA (Off A x10) w2 a m c (kn.getD []) → ∀ e, e = .returned (.tuple #[.agg ([.bool true, .slice ba bn bc, .slice ca cn' cc, .int .u64 (sq : Int), .bool sr, .bool sf] : List Value).toArray, .slice a m c, .int .i64 (if kn.isSome then 0 else 6)]) → OpensR A (SeaS.opened ⟨true, sb, sk, sq, sr, sf⟩ k n b s) ⟨ba, bn, bc, ca, cn', cc⟩ (SeaS.opens ⟨true, sb, sk, sq, sr, sf⟩ k n b s) w e w8) := fun w8 a m c hB hk hba e he => by
      have Q8 : Below w.heap.size w w8 := Kp.new Q2.out hk fun j hj => by omega
      rw [HO.out.1, HO.out.2]
      exact ⟨a, m, c, he, HR.out.grow Q8, (hba.kp hk fun j hj e => hj.2 e).mono' fun j _ hj => hj.1, Q8⟩
    cases kn with
    | none =>
      go_wp2_with (first
        | ((with_reducible refine at_ld 54 ?_); (refine ld 54 (.tmp 5) 6 sizeRS _ Tryz.underlying54 rfl x5 0 [.bool true, .slice ba bn bc, .slice ca cn' cc, .int .u64 (sq : Int), .bool sr, .bool sf] rfl B52.out.whole rfl ?_))
        | ((with_reducible refine at_st 54 ?_); (refine st' 54 (.tmp 10) (.tmp 41) 6 sizeRS x10 0 [.bool true, .slice ba bn bc, .slice ca cn' cc, .int .u64 (sq : Int), .bool sr, .bool sf] rfl (rsLL_one _ _ _ _ _ _ _ _ _ _) (B102.out.there 0 6 (by simp)) rfl rfl ?_); intro w8 hw8
           have B8 : Hid (Blk w8 x10 [.bool true, .slice ba bn bc, .slice ca cn' cc, .int .u64 (sq : Int), .bool sr, .bool sf] 54) := by rw [hw8]; exact B102.out.setsW _ rfl
           have K8 : Hid (Kp (fun j => j = x10) w2 w8) := by rw [hw8]; exact Kp.sets w2 x10 _ 0
           clear hw8))
      refine bodyPost_ret (v := .tuple #[.agg ([.bool true, .slice ba bn bc, .slice ca cn' cc, .int .u64 (sq : Int), .bool sr, .bool sf] : List Value).toArray, .slice none 0 0, .int .i64 6]) (resCTT12 Tryz.results63 _ _ x10 _ rfl (run_loadVar_row _ x10 54 54 _ (0, 0) _ B8.out Tryz.underlying54 rfl sizeRS) _ _ rfl rfl) rfl ?_
      exact FIN.out w8 none 0 0 B8.out K8.out (BA.nil _ _) _ rfl
    | some tx =>
      go_wp2_with (first
        | ((with_reducible refine at_ld 54 ?_); (refine ld 54 (.tmp 5) 6 sizeRS _ Tryz.underlying54 rfl x5 0 [.bool true, .slice ba bn bc, .slice ca cn' cc, .int .u64 (sq : Int), .bool sr, .bool sf] rfl B52.out.whole rfl ?_))
        | ((with_reducible refine at_st 54 ?_); (refine st' 54 (.tmp 10) (.tmp 39) 6 sizeRS x10 0 [.bool true, .slice ba bn bc, .slice ca cn' cc, .int .u64 (sq : Int), .bool sr, .bool sf] rfl (rsLL_one _ _ _ _ _ _ _ _ _ _) (B102.out.there 0 6 (by simp)) rfl rfl ?_); intro w8 hw8
           have B8 : Hid (Blk w8 x10 [.bool true, .slice ba bn bc, .slice ca cn' cc, .int .u64 (sq : Int), .bool sr, .bool sf] 54) := by rw [hw8]; exact B102.out.setsW _ rfl
           have K8 : Hid (Kp (fun j => j = x10) w2 w8) := by rw [hw8]; exact Kp.sets w2 x10 _ 0
           clear hw8))
      refine bodyPost_ret (v := .tuple #[.agg ([.bool true, .slice ba bn bc, .slice ca cn' cc, .int .u64 (sq : Int), .bool sr, .bool sf] : List Value).toArray, .slice at' mt ct, .int .i64 0]) (resCTT12 Tryz.results63 _ _ x10 _ rfl (run_loadVar_row _ x10 54 54 _ (0, 0) _ B8.out Tryz.underlying54 rfl sizeRS) _ _ rfl rfl) rfl ?_
      exact FIN.out w8 at' mt ct B8.out K8.out BT.out _ rfl
  | false => exact Bool.noConfusion (show false = true from hid.out)

end Go.Proofs.YtlenmkhmkommcaaGreat
