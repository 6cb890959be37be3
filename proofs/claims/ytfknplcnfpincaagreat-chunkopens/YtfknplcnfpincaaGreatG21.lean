/-
  3 texts in one. No statement of the seat is proved here.
-/
import Derived.Test.YtfknplcnfpincaaGreatG20
import Derived.Maps.AppendAt
/-
  The contract of layer 12's reference's Seal. Conditions: what stands beside and texts of at most 600 bytes, a book of at most a thousand things.
-/
namespace Go.Proofs.YtfknplcnfpincaaGreat
open Go.RowKit
set_option linter.unusedVariables false

theorem resCTT12 {fn : Func} {p t u : Tmp} {ty : TypeId} (h : fn.results = #[.cell p ty, .tmp t, .tmp u]) (tmps : Array Value) (w : World) (g : Nat) (cs : Array Value) (hp : tmps.getD p undef = .pointer (some ⟨g, 0, none⟩)) (hl : (loadVar ty ⟨g, 0, none⟩).run Tryz.prog w = .ok (.agg cs) w) (x y : Value) (hx : tmps.getD t undef = x) (hy : tmps.getD u undef = y) : (results fn tmps).run Tryz.prog w = .ok (.tuple #[.agg cs, x, y]) w := by
  have hp' : tmps[p]?.getD undef = .pointer (some ⟨g, 0, none⟩) := by simpa using hp
  have hx' : tmps[t]?.getD undef = x := by simpa using hx
  have hy' : tmps[u]?.getD undef = y := by simpa using hy
  simp [results, h, hp', hx', hy', asAddr, hl]
theorem SeaS.seal_noted (S : SeaS) (k n b t : List UInt8) : S.seal k n b t = ({ S with count := S.next } : SeaS).noted k n b t (S.made k n b t) := rfl
theorem builtEn4 (a b c d : Value) (ha : a.oneCell' = true) (hb : b.oneCell' = true) (hc : c.oneCell' = true) (hd : d.oneCell' = true) : True := trivial
/-- All of A but one block. -/
def Off (A : Nat → Prop) (x : Nat) : Nat → Prop := fun j => A j ∧ j ≠ x
theorem BA.off {A : Nat → Prop} {w : World} {x : Nat} {p : Option Addr} {m q : Nat} {l : List UInt8} (h : BA A w p m q l) (hx : w.heap.size ≤ x) : BA (Off A x) w p m q l := h.mono' fun j hj ha => ⟨ha, by omega⟩
theorem RS.mono {A A' : Nat → Prop} {w : World} {S : SeaS} {d : Du} (h : RS A w S d) (hA : ∀ j, j < w.heap.size → A j → A' j) : RS A' w S d := ⟨h.book.mono (elE.mono hA) hA, h.kids.mono (elD.mono hA) hA⟩
theorem RS.off {A : Nat → Prop} {w : World} {x : Nat} {S : SeaS} {d : Du} (h : RS A w S d) (hx : w.heap.size ≤ x) : RS (Off A x) w S d := h.mono fun j hj ha => ⟨ha, by omega⟩
/-- What Seal answers. -/
def SealsR (A : Nat → Prop) (S' : SeaS) (l : List UInt8) (w : World) (e : Ending) (w' : World) : Prop := ∃ d' a m c, e = .returned (.tuple #[rsV S' d', .slice a m c, .int .i64 0]) ∧ RS A w' S' d' ∧ BA A w' a m c l ∧ Below w.heap.size w w'

set_option maxRecDepth 100000 in
set_option maxHeartbeats 4000000 in
theorem rSeal12 (w : World) {A : Nat → Prop} (hA : ∀ j, w.heap.size ≤ j → A j) {S : SeaS} {d : Du} (h : RS A w S d) {k n b t : List UInt8} {ak an ab at' : Option Addr} {ck cn nb cb nt ct : Nat} (hk : BA A w ak 32 ck k) (hn : BA A w an 12 cn n) (hb : BA A w ab nb cb b) (ht : BA A w at' nt ct t) (zb : nb ≤ 600) (zt : nt ≤ 600) (hz : S.book.length ≤ 1000) (hq : S.count ≤ 1000000) :
    Calls Tryz.prog 25 #[rsV S d, .slice ak 32 ck, .slice an 12 cn, .slice ab nb cb, .slice at' nt ct] w (SealsR A (S.seal k n b t) (S.made k n b t) w) := by
  have HR : Hid (RS A w S d) := h
  have HK : Hid (BA A w ak 32 ck k) := hk
  have HN : Hid (BA A w an 12 cn n) := hn
  have HB : Hid (BA A w ab nb cb b) := hb
  have HT : Hid (BA A w at' nt ct t) := ht
  have HAA : Hid (∀ j, w.heap.size ≤ j → A j) := hA
  have HZ : Hid (S.book.length ≤ 1000) := hz
  have HTL : Hid (t.length = nt) := ht.1.len
  have HKL : Hid ((keyF k).length = 240) := keyF_length hk.1.len
  clear h hk hn hb ht hA hz
  obtain ⟨ba, bn, bc, ca, cn', cc⟩ := d
  obtain ⟨si, sb, sk, sq, sr, sf⟩ := S
  dsimp only at hq HZ
  have HSN : Hid (SeaS.seal ⟨si, sb, sk, sq, sr, sf⟩ k n b t = (⟨si, sb, sk, SeaS.next ⟨si, sb, sk, sq, sr, sf⟩, sr, sf⟩ : SeaS).noted k n b t (SeaS.made ⟨si, sb, sk, sq, sr, sf⟩ k n b t)) := SeaS.seal_noted _ _ _ _ _
  have hbE : ∀ (p0 p1 p2 p3 : Option Addr) (m0 q0 m1 q1 m2 q2 m3 q3 : Nat), Tryz.prog.built 84 [(0, .slice p0 m0 q0), (1, .slice p1 m1 q1), (2, .slice p2 m2 q2), (3, .slice p3 m3 q3)] = some #[.slice p0 m0 q0, .slice p1 m1 q1, .slice p2 m2 q2, .slice p3 m3 q3, .slice none 0 0] := fun _ _ _ _ _ _ _ _ _ _ _ _ => by kernel_rfl
  show Calls Tryz.prog _ #[.agg #[.bool si, .slice ba bn bc, .slice ca cn' cc, .int .u64 (sq : Int), .bool sr, .bool sf], _, _, _, _] w _
  cases si with
  | false =>
    have HM : Hid (SeaS.made ⟨false, sb, sk, sq, sr, sf⟩ k n b t = sealL (keyF k) n b t ∧ SeaS.next ⟨false, sb, sk, sq, sr, sf⟩ = sq) := ⟨rfl, rfl⟩
    go_enter Tryz.func25, Tryz.ntmps25
    go_upto_region 8 with fail
    obtain ⟨x5, hx5⟩ : ∃ x, x = w.heap.size := ⟨_, rfl⟩
    obtain ⟨x10, hx10⟩ : ∃ x, x = w.heap.size + 1 := ⟨_, rfl⟩
    obtain ⟨x13, hx13⟩ : ∃ x, x = w.heap.size + 1 + 1 := ⟨_, rfl⟩
    obtain ⟨x14, hx14⟩ : ∃ x, x = w.heap.size + 1 + 1 + 1 := ⟨_, rfl⟩
    clear hbE
    have q1 : Below w.heap.size w ((((w.alloc (.cells #[.bool false, .slice ba bn bc, .slice ca cn' cc, .int .u64 (sq : Int), .bool sr, .bool sf] 37)).alloc (.cells #[.bool false, .slice none 0 0, .slice none 0 0, .int .u64 0, .bool false, .bool false] 37)).alloc (.cells #[.bool false, .slice ba bn bc, .slice ca cn' cc, .int .u64 ((sq : Int)), .bool sr, .bool sf] 37)).alloc (.cells #[.slice ak 32 ck, .slice an 12 cn, .slice ab nb cb, .slice at' nt ct, .slice none 0 0] 84)) := (((below_alloc w _).trans ((below_alloc _ _).mono (by simp))).trans ((below_alloc _ _).mono (by simp; omega))).trans ((below_alloc _ _).mono (by simp; omega))
    have B10 : Blk ((((w.alloc (.cells #[.bool false, .slice ba bn bc, .slice ca cn' cc, .int .u64 (sq : Int), .bool sr, .bool sf] 37)).alloc (.cells #[.bool false, .slice none 0 0, .slice none 0 0, .int .u64 0, .bool false, .bool false] 37)).alloc (.cells #[.bool false, .slice ba bn bc, .slice ca cn' cc, .int .u64 ((sq : Int)), .bool sr, .bool sf] 37)).alloc (.cells #[.slice ak 32 ck, .slice an 12 cn, .slice ab nb cb, .slice at' nt ct, .slice none 0 0] 84)) (w.heap.size + 1) [.bool false, .slice none 0 0, .slice none 0 0, .int .u64 0, .bool false, .bool false] 37 := ((Blk.newAt (w.alloc (.cells #[.bool false, .slice ba bn bc, .slice ca cn' cc, .int .u64 (sq : Int), .bool sr, .bool sf] 37)) _ _ _ (by simp) _ rfl).old _).old _
    have B13 : Blk ((((w.alloc (.cells #[.bool false, .slice ba bn bc, .slice ca cn' cc, .int .u64 (sq : Int), .bool sr, .bool sf] 37)).alloc (.cells #[.bool false, .slice none 0 0, .slice none 0 0, .int .u64 0, .bool false, .bool false] 37)).alloc (.cells #[.bool false, .slice ba bn bc, .slice ca cn' cc, .int .u64 ((sq : Int)), .bool sr, .bool sf] 37)).alloc (.cells #[.slice ak 32 ck, .slice an 12 cn, .slice ab nb cb, .slice at' nt ct, .slice none 0 0] 84)) (w.heap.size + 1 + 1) [.bool false, .slice ba bn bc, .slice ca cn' cc, .int .u64 ((sq : Int)), .bool sr, .bool sf] 37 := (Blk.newAt ((w.alloc (.cells #[.bool false, .slice ba bn bc, .slice ca cn' cc, .int .u64 (sq : Int), .bool sr, .bool sf] 37)).alloc (.cells #[.bool false, .slice none 0 0, .slice none 0 0, .int .u64 0, .bool false, .bool false] 37)) _ _ _ (by simp) _ rfl).old _
    have B14 : Blk ((((w.alloc (.cells #[.bool false, .slice ba bn bc, .slice ca cn' cc, .int .u64 (sq : Int), .bool sr, .bool sf] 37)).alloc (.cells #[.bool false, .slice none 0 0, .slice none 0 0, .int .u64 0, .bool false, .bool false] 37)).alloc (.cells #[.bool false, .slice ba bn bc, .slice ca cn' cc, .int .u64 ((sq : Int)), .bool sr, .bool sf] 37)).alloc (.cells #[.slice ak 32 ck, .slice an 12 cn, .slice ab nb cb, .slice at' nt ct, .slice none 0 0] 84)) (w.heap.size + 1 + 1 + 1) [.slice ak 32 ck, .slice an 12 cn, .slice ab nb cb, .slice at' nt ct, .slice none 0 0] 84 := Blk.newAt (((w.alloc (.cells #[.bool false, .slice ba bn bc, .slice ca cn' cc, .int .u64 (sq : Int), .bool sr, .bool sf] 37)).alloc (.cells #[.bool false, .slice none 0 0, .slice none 0 0, .int .u64 0, .bool false, .bool false] 37)).alloc (.cells #[.bool false, .slice ba bn bc, .slice ca cn' cc, .int .u64 ((sq : Int)), .bool sr, .bool sf] 37)) _ _ _ (by simp) _ rfl
    rw [← hx14] at B14 ⊢
    rw [← hx13] at B13 ⊢
    rw [← hx10] at B10 ⊢
    rw [← hx5]
    have hxx : x10 < x13 ∧ x13 < x14 ∧ w.heap.size ≤ x10 := by omega
    clear hx5 hx10 hx13 hx14
    generalize (((w.alloc (.cells #[.bool false, .slice ba bn bc, .slice ca cn' cc, .int .u64 (sq : Int), .bool sr, .bool sf] 37)).alloc (.cells #[.bool false, .slice none 0 0, .slice none 0 0, .int .u64 0, .bool false, .bool false] 37)).alloc (.cells #[.bool false, .slice ba bn bc, .slice ca cn' cc, .int .u64 ((sq : Int)), .bool sr, .bool sf] 37)).alloc (.cells #[.slice ak 32 ck, .slice an 12 cn, .slice ab nb cb, .slice at' nt ct, .slice none 0 0] 84) = w1 at *
    have CN := rNewK w1 (HK.out.below' q1).1
    go_wp2_with fail
    refine CN.mono ?_
    rintro e w0 ⟨k1, k2, k3, y1, y2, y3, rfl, hKR, hb0⟩
    have q0 : Below w.heap.size w w0 := q1.trans (hb0.mono q1.size)
    clear CN
    go_wp2_with fail
    refine (rSeal w0 hKR HKL.out (HN.out.below' q0).1 (HB.out.below' q0).1 (HT.out.below' q0).1 (by omega) (by omega)).mono ?_
    rintro e w2 ⟨az, mz, cz, rfl, oz, hbz0⟩
    rw [← HM.out.1] at oz
    have q2 : Below w.heap.size w w2 := q0.trans (hbz0.mono q0.size)
    have hbz1 : Below w1.heap.size w1 w2 := hb0.trans (hbz0.mono hb0.size)
    obtain ⟨Z, hZ⟩ : ∃ Z, Z = SeaS.made ⟨false, sb, sk, sq, sr, sf⟩ k n b t := ⟨_, rfl⟩
    rw [← hZ] at oz
    have HZZ : Hid (Z = SeaS.made ⟨false, sb, sk, sq, sr, sf⟩ k n b t) := hZ
    have B142 := B14.below hbz1 B14.lt
    have c144 : w2.cell? ⟨x14, 4, none⟩ = some (.slice none 0 0) := B142.cell 4
    have f144 := B142.free 4
    have l14 := B142.lt
    have k23 : Kp (fun j => j = x14) w2 (w2.setCell ⟨x14, 4, none⟩ (.slice az mz cz)) := Kp.of_grown (but_set w2 x14 4 _)
    have B143 : Hid (Blk (w2.setCell ⟨x14, 4, none⟩ (.slice az mz cz)) x14 [.slice ak 32 ck, .slice an 12 cn, .slice ab nb cb, .slice at' nt ct, .slice az mz cz] 84) := B142.setC 4 (.slice az mz cz)
    have B133 : Hid (Blk (w2.setCell ⟨x14, 4, none⟩ (.slice az mz cz)) x13 [.bool false, .slice ba bn bc, .slice ca cn' cc, .int .u64 ((sq : Int)), .bool sr, .bool sf] 37) := k23.blk (B13.below hbz1 B13.lt) (by omega)
    have B103 : Hid (Blk (w2.setCell ⟨x14, 4, none⟩ (.slice az mz cz)) x10 [.bool false, .slice none 0 0, .slice none 0 0, .int .u64 0, .bool false, .bool false] 37) := k23.blk (B10.below hbz1 B10.lt) (by omega)
    have Q3 : Hid (Below w.heap.size w (w2.setCell ⟨x14, 4, none⟩ (.slice az mz cz))) := Kp.new q2 k23 fun j hj => by omega
    have hx1 : x14 < w1.heap.size := B14.lt
    have BZ : Hid (BA (Off A x10) (w2.setCell ⟨x14, 4, none⟩ (.slice az mz cz)) az mz cz Z) := (BA.kp oz.ba k23 fun j hj e => by have := q1.size; have := hb0.size; omega).mono' fun j _ hj => ⟨HAA.out j (by have := q1.size; have := hb0.size; omega), by have := q1.size; have := hb0.size; omega⟩
    have R3 : Hid (RS (Off A x10) (w2.setCell ⟨x14, 4, none⟩ (.slice az mz cz)) (⟨false, sb, sk, sq, sr, sf⟩ : SeaS) ⟨ba, bn, bc, ca, cn', cc⟩) := ⟨((HR.out.off (by omega)).grow Q3.out).book, ((HR.out.off (by omega)).grow Q3.out).kids⟩
    clear B142 k23 oz hbz1 B14 B13 B10 q1 q2 hZ hx1 hKR hb0 q0 hbz0
    go_upto_region 10 with fail
    generalize w2.setCell ⟨x14, 4, none⟩ (.slice az mz cz) = w3 at *
    have B13 := B133
    have B14 := B143
    have B10 := B103
    clear B133 B143 B103 c144 f144
    have F4 : ∀ u, Kp (fun j => j = x10) w3 u → u.cell? ⟨x14, 4, none⟩ = some (.slice az mz cz) := fun u hu => (hu.blk B14.out (by omega)).cell 4
    refine regionG (S := Kp (fun j => j = x10) w3) (by kernel_rfl) (Kp.of_below (Below.refl _ w3).drew) ?_
    refine takeG 0 (some 56) (.agg ([.bool false, .slice ba bn bc, .slice ca cn' cc, .int .u64 ((sq : Int)), .bool sr, .bool sf]).toArray) rfl rfl (by kernel_rfl) (by kernel_rfl) (by kernel_rfl) (fun _ _ _ h => h) (ans_row 37 (.tmp 13) _ 6 rfl (by rfl) x13 0 rfl [.bool false, .slice ba bn bc, .slice ca cn' cc, .int .u64 ((sq : Int)), .bool sr, .bool sf] (fun u hu => (hu.blk B13.out (by omega)).whole) Tryz.underlying37 rfl rfl sizeRS) ?_
    simp only [Act.put, List.setIfInBounds_toArray, List.set_cons_zero, List.set_cons_succ]
    refine takeG 1 (some 57) (.agg ([.slice ak 32 ck, .slice an 12 cn, .slice ab nb cb, .slice at' nt ct, .slice az mz cz] : List Value).toArray) rfl rfl (by kernel_rfl) (by kernel_rfl) (by kernel_rfl) (fun _ _ _ h => h) (ans_row 84 (.tmp 14) _ 5 rfl (by rfl) x14 0 rfl [.slice ak 32 ck, .slice an 12 cn, .slice ab nb cb, .slice at' nt ct, .slice az mz cz] (fun u hu => (hu.blk B14.out (by omega)).whole) Tryz.underlying84 rfl rfl sizeEn5) ?_
    simp only [Act.put, List.setIfInBounds_toArray, List.set_cons_zero, List.set_cons_succ]
    refine takeG 3 (some 59) (.pointer (some ⟨x14, 4, none⟩)) rfl rfl (by kernel_rfl) (by kernel_rfl) (by kernel_rfl) (fun _ _ _ h => h) (ans_plain (by rfl) (fun w _ => by unfold execOp; go_simp)) ?_
    simp only [Act.put, List.setIfInBounds_toArray, List.set_cons_zero, List.set_cons_succ]
    refine takeG 4 (some 60) (.slice az mz cz) rfl rfl (by kernel_rfl) (by kernel_rfl) (by kernel_rfl) (fun _ _ _ h => h) (ans_plain (by rfl) (fun w h => by have hc := F4 w h; unfold execOp; go_simp)) ?_
    simp only [Act.put, List.setIfInBounds_toArray, List.set_cons_zero, List.set_cons_succ]
    refine callG 2 (some 58) 45 #[.tmp 56, .tmp 57] #[37, 84] #[rsV (⟨false, sb, sk, sq, sr, sf⟩ : SeaS) ⟨ba, bn, bc, ca, cn', cc⟩, .agg #[.slice ak 32 ck, .slice an 12 cn, .slice ab nb cb, .slice at' nt ct, .slice az mz cz]] rfl rfl rfl (by rfl) (by rfl) (by kernel_rfl) Tryz.call45 fun w4 hg4 hs4 => ?_
    have q4 : Below w3.heap.size w3 w4 := Grows.ofDrew hg4
    have Q4 : Below w.heap.size w w4 := Q3.out.trans (q4.mono Q3.out.size)
    refine (rNoted12 w4 (A := Off A x10) (fun j hj => ⟨HAA.out j (Nat.le_trans Q4.size hj), by have := q4.size; have := B10.out.lt; omega⟩) (S := (⟨false, sb, sk, sq, sr, sf⟩ : SeaS)) (d := ⟨ba, bn, bc, ca, cn', cc⟩) (R3.out.grow q4) ((HK.out.off (by omega)).below' Q4) ((HN.out.off (by omega)).below' Q4) ((HB.out.off (by omega)).below' Q4) ((HT.out.off (by omega)).below' Q4) (BZ.out.below' q4) HZ.out).mono ?_
    rintro e w5 ⟨d2, rfl, hR5, hb5⟩
    refine ⟨_, rfl, hs4.trans (Kp.of_below hb5), ?_⟩
    simp only [Act.put, List.setIfInBounds_toArray, List.set_cons_zero, List.set_cons_succ]
    have q5 : Below w3.heap.size w3 w5 := q4.trans (hb5.mono q4.size)
    refine oneG 5 (by kernel_rfl) fun w6 hg6 hs6 => ?_
    have q6 : Below w3.heap.size w3 w6 := q5.trans (Below.mono hg6 q5.size)
    refine opStR 5 37 (.tmp 10) (.tmp 58) 6 rfl rfl rfl rfl x10 [.bool false, .slice none 0 0, .slice none 0 0, .int .u64 0, .bool false, .bool false] (rsC ((⟨false, sb, sk, sq, sr, sf⟩ : SeaS).noted k n b t Z) d2) 37 (B10.out.below q6 B10.out.lt) rfl rfl (rsC_one _ _) sizeRS rfl rfl fun w7 B7 k7 => ?_
    refine ⟨hs6.trans k7, ?_⟩
    refine takeG 6 (some 11) (.slice az mz cz) rfl rfl (by kernel_rfl) (by kernel_rfl) (by kernel_rfl) (fun _ _ _ h => h) (ans_plain (by rfl) (fun w _ => rfl)) ?_
    simp only [Act.put, List.setIfInBounds_toArray, List.set_cons_zero, List.set_cons_succ]
    refine takeG 7 (some 12) (.int .i64 0) rfl rfl (by kernel_rfl) (by kernel_rfl) (by kernel_rfl) (fun _ _ _ h => h) (ans_plain (by rfl) (fun w _ => rfl)) ?_
    simp only [Act.put, List.setIfInBounds_toArray, List.set_cons_zero, List.set_cons_succ]
    refine doneG (by kernel_rfl) fun w8 hg8 hs8 => ?_
    have hx : w.heap.size ≤ x10 := by omega
    have Q6 : Below w.heap.size w w6 := Q3.out.trans (q6.mono Q3.out.size)
    have Q8 : Hid (Below w.heap.size w w8) := Below.trans (Kp.new Q6 k7 fun j hj => by omega) (Below.mono hg8 (Below.size (Kp.new Q6 k7 fun j hj => by omega)))
    have q58 : Kp (fun j => j = x10) w5 w8 := ((Kp.of_below hg6).trans k7).trans (Kp.of_below hg8)
    have lx10 : x10 < w3.heap.size := B10.out.lt
    have B8 : Hid (Blk w8 x10 (rsC ((⟨false, sb, sk, sq, sr, sf⟩ : SeaS).noted k n b t Z) d2) 37) := B7.grows hg8
    have R8 : Hid (RS A w8 ((⟨false, sb, sk, sq, sr, sf⟩ : SeaS).noted k n b t Z) d2) := (hR5.kp q58 fun j hj e => hj.2 e).mono fun j _ hj => hj.1
    have Z8 : Hid (BA A w8 az mz cz Z) := ((BZ.out.below' q5).kp q58 fun j hj e => hj.2 e).mono' fun j _ hj => hj.1
    clear hR5 hb5 hs4 hg4 q4 Q4 q5 hg6 hs6 q6 B7 k7 hg8 hs8 Q6 q58 F4
    go_wp2_with fail
    refine bodyPost_ret (v := .tuple #[rsV ((⟨false, sb, sk, sq, sr, sf⟩ : SeaS).noted k n b t Z) d2, .slice az mz cz, .int .i64 0]) (resCTT12 Tryz.results25 _ _ x10 _ rfl (run_loadVar_row _ x10 37 37 _ (0, 0) _ B8.out Tryz.underlying37 rfl sizeRS) _ _ rfl rfl) rfl ?_
    exact ⟨d2, az, mz, cz, by rw [HSN.out, HM.out.2, ← HZZ.out], by rw [HSN.out, HM.out.2, ← HZZ.out]; exact R8.out, by rw [← HZZ.out]; exact Z8.out, Q8.out⟩
  | true =>
    have HM : Hid (SeaS.made ⟨true, sb, sk, sq, sr, sf⟩ k n b t = noiseL (sq + 1) (nt + 16) ∧ SeaS.next ⟨true, sb, sk, sq, sr, sf⟩ = sq + 1) := ⟨by unfold SeaS.made; rw [if_pos rfl, HTL.out], rfl⟩
    go_enter Tryz.func25, Tryz.ntmps25
    go_upto_region 7 with fail
    obtain ⟨x5, hx5⟩ : ∃ x, x = w.heap.size := ⟨_, rfl⟩
    obtain ⟨x10, hx10⟩ : ∃ x, x = w.heap.size + 1 := ⟨_, rfl⟩
    obtain ⟨x13, hx13⟩ : ∃ x, x = w.heap.size + 1 + 1 := ⟨_, rfl⟩
    obtain ⟨x14, hx14⟩ : ∃ x, x = w.heap.size + 1 + 1 + 1 := ⟨_, rfl⟩
    clear hbE
    have q1 : Below w.heap.size w ((((w.alloc (.cells #[.bool true, .slice ba bn bc, .slice ca cn' cc, .int .u64 (sq : Int), .bool sr, .bool sf] 37)).alloc (.cells #[.bool false, .slice none 0 0, .slice none 0 0, .int .u64 0, .bool false, .bool false] 37)).alloc (.cells #[.bool true, .slice ba bn bc, .slice ca cn' cc, .int .u64 ((sq : Int) + 1), .bool sr, .bool sf] 37)).alloc (.cells #[.slice ak 32 ck, .slice an 12 cn, .slice ab nb cb, .slice at' nt ct, .slice none 0 0] 84)) := (((below_alloc w _).trans ((below_alloc _ _).mono (by simp))).trans ((below_alloc _ _).mono (by simp; omega))).trans ((below_alloc _ _).mono (by simp; omega))
    have B10 : Blk ((((w.alloc (.cells #[.bool true, .slice ba bn bc, .slice ca cn' cc, .int .u64 (sq : Int), .bool sr, .bool sf] 37)).alloc (.cells #[.bool false, .slice none 0 0, .slice none 0 0, .int .u64 0, .bool false, .bool false] 37)).alloc (.cells #[.bool true, .slice ba bn bc, .slice ca cn' cc, .int .u64 ((sq : Int) + 1), .bool sr, .bool sf] 37)).alloc (.cells #[.slice ak 32 ck, .slice an 12 cn, .slice ab nb cb, .slice at' nt ct, .slice none 0 0] 84)) (w.heap.size + 1) [.bool false, .slice none 0 0, .slice none 0 0, .int .u64 0, .bool false, .bool false] 37 := ((Blk.newAt (w.alloc (.cells #[.bool true, .slice ba bn bc, .slice ca cn' cc, .int .u64 (sq : Int), .bool sr, .bool sf] 37)) _ _ _ (by simp) _ rfl).old _).old _
    have B13 : Blk ((((w.alloc (.cells #[.bool true, .slice ba bn bc, .slice ca cn' cc, .int .u64 (sq : Int), .bool sr, .bool sf] 37)).alloc (.cells #[.bool false, .slice none 0 0, .slice none 0 0, .int .u64 0, .bool false, .bool false] 37)).alloc (.cells #[.bool true, .slice ba bn bc, .slice ca cn' cc, .int .u64 ((sq : Int) + 1), .bool sr, .bool sf] 37)).alloc (.cells #[.slice ak 32 ck, .slice an 12 cn, .slice ab nb cb, .slice at' nt ct, .slice none 0 0] 84)) (w.heap.size + 1 + 1) [.bool true, .slice ba bn bc, .slice ca cn' cc, .int .u64 ((sq : Int) + 1), .bool sr, .bool sf] 37 := (Blk.newAt ((w.alloc (.cells #[.bool true, .slice ba bn bc, .slice ca cn' cc, .int .u64 (sq : Int), .bool sr, .bool sf] 37)).alloc (.cells #[.bool false, .slice none 0 0, .slice none 0 0, .int .u64 0, .bool false, .bool false] 37)) _ _ _ (by simp) _ rfl).old _
    have B14 : Blk ((((w.alloc (.cells #[.bool true, .slice ba bn bc, .slice ca cn' cc, .int .u64 (sq : Int), .bool sr, .bool sf] 37)).alloc (.cells #[.bool false, .slice none 0 0, .slice none 0 0, .int .u64 0, .bool false, .bool false] 37)).alloc (.cells #[.bool true, .slice ba bn bc, .slice ca cn' cc, .int .u64 ((sq : Int) + 1), .bool sr, .bool sf] 37)).alloc (.cells #[.slice ak 32 ck, .slice an 12 cn, .slice ab nb cb, .slice at' nt ct, .slice none 0 0] 84)) (w.heap.size + 1 + 1 + 1) [.slice ak 32 ck, .slice an 12 cn, .slice ab nb cb, .slice at' nt ct, .slice none 0 0] 84 := Blk.newAt (((w.alloc (.cells #[.bool true, .slice ba bn bc, .slice ca cn' cc, .int .u64 (sq : Int), .bool sr, .bool sf] 37)).alloc (.cells #[.bool false, .slice none 0 0, .slice none 0 0, .int .u64 0, .bool false, .bool false] 37)).alloc (.cells #[.bool true, .slice ba bn bc, .slice ca cn' cc, .int .u64 ((sq : Int) + 1), .bool sr, .bool sf] 37)) _ _ _ (by simp) _ rfl
    rw [← hx14] at B14 ⊢
    rw [← hx13] at B13 ⊢
    rw [← hx10] at B10 ⊢
    rw [← hx5]
    have hxx : x10 < x13 ∧ x13 < x14 ∧ w.heap.size ≤ x10 := by omega
    clear hx5 hx10 hx13 hx14
    generalize (((w.alloc (.cells #[.bool true, .slice ba bn bc, .slice ca cn' cc, .int .u64 (sq : Int), .bool sr, .bool sf] 37)).alloc (.cells #[.bool false, .slice none 0 0, .slice none 0 0, .int .u64 0, .bool false, .bool false] 37)).alloc (.cells #[.bool true, .slice ba bn bc, .slice ca cn' cc, .int .u64 ((sq : Int) + 1), .bool sr, .bool sf] 37)).alloc (.cells #[.slice ak 32 ck, .slice an 12 cn, .slice ab nb cb, .slice at' nt ct, .slice none 0 0] 84) = w1 at *
    have c133 : w1.cell? ⟨x13, 3, none⟩ = some (.int .u64 ((sq : Int) + 1)) := B13.cell 3
    have l13 := B13.lt
    have hsq : (sq : Int) + 1 ≤ 1000001 := by omega
    go_wp2_with fail
    refine (rNoise ((sq : Int) + 1) ((nt : Int) + 16) w1 (by omega) (by omega) (by omega) (by omega)).mono ?_
    rintro e w2 ⟨az, mz, cz, rfl, oz, hbz⟩
    rw [show ((sq : Int) + 1).toNat = sq + 1 from by omega, show ((nt : Int) + 16).toNat = nt + 16 from by omega, ← HM.out.1] at oz
    have q2 : Below w.heap.size w w2 := q1.trans (hbz.mono q1.size)
    have hbz1 := hbz
    clear c133 l13 hsq
    obtain ⟨Z, hZ⟩ : ∃ Z, Z = SeaS.made ⟨true, sb, sk, sq, sr, sf⟩ k n b t := ⟨_, rfl⟩
    rw [← hZ] at oz
    have HZZ : Hid (Z = SeaS.made ⟨true, sb, sk, sq, sr, sf⟩ k n b t) := hZ
    have B142 := B14.below hbz1 B14.lt
    have c144 : w2.cell? ⟨x14, 4, none⟩ = some (.slice none 0 0) := B142.cell 4
    have f144 := B142.free 4
    have l14 := B142.lt
    have k23 : Kp (fun j => j = x14) w2 (w2.setCell ⟨x14, 4, none⟩ (.slice az mz cz)) := Kp.of_grown (but_set w2 x14 4 _)
    have B143 : Hid (Blk (w2.setCell ⟨x14, 4, none⟩ (.slice az mz cz)) x14 [.slice ak 32 ck, .slice an 12 cn, .slice ab nb cb, .slice at' nt ct, .slice az mz cz] 84) := B142.setC 4 (.slice az mz cz)
    have B133 : Hid (Blk (w2.setCell ⟨x14, 4, none⟩ (.slice az mz cz)) x13 [.bool true, .slice ba bn bc, .slice ca cn' cc, .int .u64 ((sq : Int) + 1), .bool sr, .bool sf] 37) := k23.blk (B13.below hbz1 B13.lt) (by omega)
    have B103 : Hid (Blk (w2.setCell ⟨x14, 4, none⟩ (.slice az mz cz)) x10 [.bool false, .slice none 0 0, .slice none 0 0, .int .u64 0, .bool false, .bool false] 37) := k23.blk (B10.below hbz1 B10.lt) (by omega)
    have Q3 : Hid (Below w.heap.size w (w2.setCell ⟨x14, 4, none⟩ (.slice az mz cz))) := Kp.new q2 k23 fun j hj => by omega
    have hx1 : x14 < w1.heap.size := B14.lt
    have BZ : Hid (BA (Off A x10) (w2.setCell ⟨x14, 4, none⟩ (.slice az mz cz)) az mz cz Z) := (BA.kp oz.ba k23 fun j hj e => by have := q1.size; omega).mono' fun j _ hj => ⟨HAA.out j (by have := q1.size; omega), by have := q1.size; omega⟩
    have R3 : Hid (RS (Off A x10) (w2.setCell ⟨x14, 4, none⟩ (.slice az mz cz)) (⟨true, sb, sk, sq + 1, sr, sf⟩ : SeaS) ⟨ba, bn, bc, ca, cn', cc⟩) := ⟨((HR.out.off (by omega)).grow Q3.out).book, ((HR.out.off (by omega)).grow Q3.out).kids⟩
    clear B142 k23 oz hbz1 B14 B13 B10 q1 q2 hZ hx1 hbz
    go_upto_region 10 with fail
    generalize w2.setCell ⟨x14, 4, none⟩ (.slice az mz cz) = w3 at *
    have B13 := B133
    have B14 := B143
    have B10 := B103
    clear B133 B143 B103 c144 f144
    have F4 : ∀ u, Kp (fun j => j = x10) w3 u → u.cell? ⟨x14, 4, none⟩ = some (.slice az mz cz) := fun u hu => (hu.blk B14.out (by omega)).cell 4
    refine regionG (S := Kp (fun j => j = x10) w3) (by kernel_rfl) (Kp.of_below (Below.refl _ w3).drew) ?_
    refine takeG 0 (some 56) (.agg ([.bool true, .slice ba bn bc, .slice ca cn' cc, .int .u64 ((sq : Int) + 1), .bool sr, .bool sf]).toArray) rfl rfl (by kernel_rfl) (by kernel_rfl) (by kernel_rfl) (fun _ _ _ h => h) (ans_row 37 (.tmp 13) _ 6 rfl (by rfl) x13 0 rfl [.bool true, .slice ba bn bc, .slice ca cn' cc, .int .u64 ((sq : Int) + 1), .bool sr, .bool sf] (fun u hu => (hu.blk B13.out (by omega)).whole) Tryz.underlying37 rfl rfl sizeRS) ?_
    simp only [Act.put, List.setIfInBounds_toArray, List.set_cons_zero, List.set_cons_succ]
    refine takeG 1 (some 57) (.agg ([.slice ak 32 ck, .slice an 12 cn, .slice ab nb cb, .slice at' nt ct, .slice az mz cz] : List Value).toArray) rfl rfl (by kernel_rfl) (by kernel_rfl) (by kernel_rfl) (fun _ _ _ h => h) (ans_row 84 (.tmp 14) _ 5 rfl (by rfl) x14 0 rfl [.slice ak 32 ck, .slice an 12 cn, .slice ab nb cb, .slice at' nt ct, .slice az mz cz] (fun u hu => (hu.blk B14.out (by omega)).whole) Tryz.underlying84 rfl rfl sizeEn5) ?_
    simp only [Act.put, List.setIfInBounds_toArray, List.set_cons_zero, List.set_cons_succ]
    refine takeG 3 (some 59) (.pointer (some ⟨x14, 4, none⟩)) rfl rfl (by kernel_rfl) (by kernel_rfl) (by kernel_rfl) (fun _ _ _ h => h) (ans_plain (by rfl) (fun w _ => by unfold execOp; go_simp)) ?_
    simp only [Act.put, List.setIfInBounds_toArray, List.set_cons_zero, List.set_cons_succ]
    refine takeG 4 (some 60) (.slice az mz cz) rfl rfl (by kernel_rfl) (by kernel_rfl) (by kernel_rfl) (fun _ _ _ h => h) (ans_plain (by rfl) (fun w h => by have hc := F4 w h; unfold execOp; go_simp)) ?_
    simp only [Act.put, List.setIfInBounds_toArray, List.set_cons_zero, List.set_cons_succ]
    refine callG 2 (some 58) 45 #[.tmp 56, .tmp 57] #[37, 84] #[rsV (⟨true, sb, sk, sq + 1, sr, sf⟩ : SeaS) ⟨ba, bn, bc, ca, cn', cc⟩, .agg #[.slice ak 32 ck, .slice an 12 cn, .slice ab nb cb, .slice at' nt ct, .slice az mz cz]] rfl rfl rfl (by rfl) (by rfl) (by kernel_rfl) Tryz.call45 fun w4 hg4 hs4 => ?_
    have q4 : Below w3.heap.size w3 w4 := Grows.ofDrew hg4
    have Q4 : Below w.heap.size w w4 := Q3.out.trans (q4.mono Q3.out.size)
    refine (rNoted12 w4 (A := Off A x10) (fun j hj => ⟨HAA.out j (Nat.le_trans Q4.size hj), by have := q4.size; have := B10.out.lt; omega⟩) (S := (⟨true, sb, sk, sq + 1, sr, sf⟩ : SeaS)) (d := ⟨ba, bn, bc, ca, cn', cc⟩) (R3.out.grow q4) ((HK.out.off (by omega)).below' Q4) ((HN.out.off (by omega)).below' Q4) ((HB.out.off (by omega)).below' Q4) ((HT.out.off (by omega)).below' Q4) (BZ.out.below' q4) HZ.out).mono ?_
    rintro e w5 ⟨d2, rfl, hR5, hb5⟩
    refine ⟨_, rfl, hs4.trans (Kp.of_below hb5), ?_⟩
    simp only [Act.put, List.setIfInBounds_toArray, List.set_cons_zero, List.set_cons_succ]
    have q5 : Below w3.heap.size w3 w5 := q4.trans (hb5.mono q4.size)
    refine oneG 5 (by kernel_rfl) fun w6 hg6 hs6 => ?_
    have q6 : Below w3.heap.size w3 w6 := q5.trans (Below.mono hg6 q5.size)
    refine opStR 5 37 (.tmp 10) (.tmp 58) 6 rfl rfl rfl rfl x10 [.bool false, .slice none 0 0, .slice none 0 0, .int .u64 0, .bool false, .bool false] (rsC ((⟨true, sb, sk, sq + 1, sr, sf⟩ : SeaS).noted k n b t Z) d2) 37 (B10.out.below q6 B10.out.lt) rfl rfl (rsC_one _ _) sizeRS rfl rfl fun w7 B7 k7 => ?_
    refine ⟨hs6.trans k7, ?_⟩
    refine takeG 6 (some 11) (.slice az mz cz) rfl rfl (by kernel_rfl) (by kernel_rfl) (by kernel_rfl) (fun _ _ _ h => h) (ans_plain (by rfl) (fun w _ => rfl)) ?_
    simp only [Act.put, List.setIfInBounds_toArray, List.set_cons_zero, List.set_cons_succ]
    refine takeG 7 (some 12) (.int .i64 0) rfl rfl (by kernel_rfl) (by kernel_rfl) (by kernel_rfl) (fun _ _ _ h => h) (ans_plain (by rfl) (fun w _ => rfl)) ?_
    simp only [Act.put, List.setIfInBounds_toArray, List.set_cons_zero, List.set_cons_succ]
    refine doneG (by kernel_rfl) fun w8 hg8 hs8 => ?_
    have hx : w.heap.size ≤ x10 := by omega
    have Q6 : Below w.heap.size w w6 := Q3.out.trans (q6.mono Q3.out.size)
    have Q8 : Hid (Below w.heap.size w w8) := Below.trans (Kp.new Q6 k7 fun j hj => by omega) (Below.mono hg8 (Below.size (Kp.new Q6 k7 fun j hj => by omega)))
    have q58 : Kp (fun j => j = x10) w5 w8 := ((Kp.of_below hg6).trans k7).trans (Kp.of_below hg8)
    have lx10 : x10 < w3.heap.size := B10.out.lt
    have B8 : Hid (Blk w8 x10 (rsC ((⟨true, sb, sk, sq + 1, sr, sf⟩ : SeaS).noted k n b t Z) d2) 37) := B7.grows hg8
    have R8 : Hid (RS A w8 ((⟨true, sb, sk, sq + 1, sr, sf⟩ : SeaS).noted k n b t Z) d2) := (hR5.kp q58 fun j hj e => hj.2 e).mono fun j _ hj => hj.1
    have Z8 : Hid (BA A w8 az mz cz Z) := ((BZ.out.below' q5).kp q58 fun j hj e => hj.2 e).mono' fun j _ hj => hj.1
    clear hR5 hb5 hs4 hg4 q4 Q4 q5 hg6 hs6 q6 B7 k7 hg8 hs8 Q6 q58 F4
    go_wp2_with fail
    refine bodyPost_ret (v := .tuple #[rsV ((⟨true, sb, sk, sq + 1, sr, sf⟩ : SeaS).noted k n b t Z) d2, .slice az mz cz, .int .i64 0]) (resCTT12 Tryz.results25 _ _ x10 _ rfl (run_loadVar_row _ x10 37 37 _ (0, 0) _ B8.out Tryz.underlying37 rfl sizeRS) _ _ rfl rfl) rfl ?_
    exact ⟨d2, az, mz, cz, by rw [HSN.out, HM.out.2, ← HZZ.out], by rw [HSN.out, HM.out.2, ← HZZ.out]; exact R8.out, by rw [← HZZ.out]; exact Z8.out, Q8.out⟩

end Go.Proofs.YtfknplcnfpincaaGreat

/-
  Regions that draw their order: a call as one operation, and two that may come up. No condition; no statement of the seat is proved here.
-/
namespace Go.Proofs.YtfknplcnfpincaaGreat
open Go.RowKit
set_option linter.unusedVariables false

/-- A call, wherever it comes. -/
theorem opCallW {ops : Array Oper} {Q : Exit → Act → World → Prop} (i : Nat) (d : Option Tmp) (f : FuncId) (args : Array Operand) (tys : Array TypeId) (vs : Array Value) {oi : Oper} {K : Act → World → Prop} {a : Act} {w : World} (hi : ops[i]? = some oi) (hd : oi.dst = d)
    (ho : oi.op = .call { callee := .value (.func f), args := args, argTypes := tys }) (hw : Region.wanted oi (yielded ops a.tmps) = true) (hv : (args.toList.map a.eval).toArray = vs) (hc : ∀ vs w, (callFunc f vs).run Tryz.prog w = .ok (.enter f vs) w)
    (h : Calls Tryz.prog f vs w fun x w' => ∃ v, x = .returned v ∧ K (a.put d v) w') : wpOp Tryz.prog ops Q i K a w := by
  subst hd
  have hv' : args.map a.eval = vs := by rw [← hv]; apply Array.toList_inj.1; rw [Array.toList_map]
  subst hv'
  unfold wpOp
  simp only [hi]
  rw [if_pos hw]
  left
  unfold Oper.wp
  have hx : (execOp a.eval oi).run Tryz.prog w = .ok (.enter f (args.map a.eval)) w := by simp [execOp, ho, resolve, invoke, Act.eval, Deferred.ofValue, hc]
  rw [hx, Oper.upon_enter]
  refine h.mono ?_
  rintro x w' ⟨v, rfl, hh⟩
  exact hh
/-- Two that may come up. -/
theorem fork2G {P : Program} {ops : Array Oper} {Q : Exit → Act → World → Prop} {md : Region.Mode} {S : World → Prop} (i j : Nat) {fuel : Nat} {listed : Array Bool} {a : Act} {w : World} (hr : Region.ready md ops listed = [i, j])
    (h : ∀ w', Grows w w' → S w' → wpOp P ops Q i (fun a' w'' => S w'' ∧ wpAnyG P md ops Q S fuel (listed.setIfInBounds i true) a' w'') a w')
    (k : ∀ w', Grows w w' → S w' → wpOp P ops Q j (fun a' w'' => S w'' ∧ wpAnyG P md ops Q S fuel (listed.setIfInBounds j true) a' w'') a w') : wpAnyG P md ops Q S (fuel + 1) listed a w :=
  fun w' hg hS => ⟨fun h0 => (by rw [h0] at hr; cases hr), fun x hx => by
    rw [hr] at hx
    rcases List.mem_cons.1 hx with rfl | hx
    · exact h w' hg hS
    · rw [List.mem_singleton.1 hx]
      exact k w' hg hS⟩

end Go.Proofs.YtfknplcnfpincaaGreat

/-
  Append with the new slice's place told. No condition; no statement of the seat is proved here.
-/
namespace Go.Proofs.YtfknplcnfpincaaGreat
open Go.RowKit
set_option linter.unusedVariables false

theorem wp_app_at {o : Oper} {a : Act} {K : Act → World → Prop} {Q : Exit → Act → World → Prop} (w : World) (s x : Operand) (t : TypeId)
    (ho : o.op = .call { callee := .builtin .append, args := #[s, x], argTypes := #[t, t] })
    (base : Nat) (e : TypeId) (i : TypeInfo) (z : Value) (size bytes : Nat) (ht : Tryz.prog.underlying t = some (.slice e)) (hi : Tryz.prog.info? e = some i) (hz : i.zero = some z)
    (hsize : i.size = size) (hby : i.bytes = bytes) (hzs : z.cells.size = size) (hsz : 0 < size)
    (v : Value) (n : Nat) (xs : List Value) (hs : a.eval s = v) (hown : w.ownsRow base e size v n xs)
    (ad : Addr) (m c : Nat) (news : List Value) (hx : a.eval x = .slice (some ad) m c) (hl : news.length = m * size) (hnews : ∀ j u, news[j]? = some u → w.cell? (ad.add j) = some u) (h1 : ∀ u ∈ news, u.oneCell' = true)
    (h63 : n + m ≤ maxLen) (hbytes : (n + m) * bytes ≤ 140737488355328) (hbase : base ≤ w.heap.size)
    (h : ∀ v' w', w'.ownsRow base e size v' (n + m) (xs ++ news) → w.grownBy w' v.ownBlock → (v'.ownBlock = v.ownBlock ∨ v'.ownBlock = some w.heap.size) → K (a.put o.dst v') w') : o.wp Tryz.prog a w K Q := by
  obtain ⟨v', w', hr, h2, h3, h4, h5⟩ := run_append_own_at (P := Tryz.prog) w base t o.type e i z size bytes ht hi hz hsize hby hzs hsz v n xs hown ad m c news hl hnews h1 h63 hbytes hbase
  unfold Oper.wp execOp
  simp only [ho, resolve, invoke, builtin, Sem.run_bind, Sem.run_pure, Result.andThen_ok, List.map_toArray, List.map_cons, List.map_nil, hs, hx, hr]
  exact h v' w' h2 h3 h5
/-- append of one struct out of a literal; where the new slice lies. -/
theorem wpList_app1At {α : Type} (el : World → α → List Value → Prop) (sz by_ : Nat) (t e : TypeId) (z : Value) (ht : Tryz.prog.underlying t = some (.slice e)) (hi : (Tryz.prog.info? e).map (fun i => (i.zero, i.size, i.bytes)) = some (some z, sz, by_)) (hzs : z.cells.size = sz) (hsz : 0 < sz) (hby : by_ ≤ 1000)
    {ops : Array Oper} {rest : List Oper} {o : Oper} {a : Act} {Q : Exit → Act → World → Prop} (w : World) (hgd : o.guard = none) (s x : Operand)
    (ho : o.op = Op.call { callee := Callee.builtin Builtin.append, args := #[s, x], argTypes := #[t, t] }) (base : Nat) (v : Value) (l : List α) (hs : a.eval s = v) (hown : OwS el sz e w base v l)
    (b c : Nat) (y : α) (vs : List Value) (hx : a.eval x = .slice (some ⟨b, 0, none⟩) 1 c) (hrg : w.rangeAt b 0 vs) (hrow : Row el sz w y vs) (hz : l.length + 1 ≤ 1000000) (hbase : base ≤ w.heap.size)
    (hel : ∀ w' x vs, w.grownBy w' v.ownBlock → el w x vs → el w' x vs)
    (h : ∀ v' w', OwS el sz e w' base v' (l ++ [y]) → w.grownBy w' v.ownBlock → (v'.ownBlock = v.ownBlock ∨ v'.ownBlock = some w.heap.size) → wpList Tryz.prog ops Q rest (a.put o.dst v') w') : wpList Tryz.prog ops Q (o :: rest) a w := by
  obtain ⟨i0, hi, hz0, hz1, hz2⟩ := info_parts hi
  obtain ⟨rows, hr, howr⟩ := hown
  obtain ⟨h1, h2, h3⟩ := hrow
  refine wpList_plain hgd fun K hK => ?_
  refine wp_app_at w s x t ho base e i0 z sz by_ ht hi hz0 hz1 hz2 hzs hsz v _ _ hs howr ⟨b, 0, none⟩ 1 c vs hx (by rw [h1, Nat.one_mul]) (fun j u hj => by rw [add_none]; exact hrg j u hj) h2 (by unfold maxLen; omega) (by have := Nat.mul_le_mul hz hby; omega) hbase ?_
  intro v' w' ho' hg hp
  refine hK _ _ (h v' w' ⟨rows ++ [vs], ?_, ?_⟩ hg hp)
  · exact (hr.mono fun y vs ⟨a1, a2, a3⟩ => ⟨a1, a2, hel w' y vs hg a3⟩).append ⟨⟨h1, h2, hel w' y vs hg h3⟩, trivial⟩
  · rw [List.flatten_append, List.length_append]
    simp only [List.flatten_cons, List.flatten_nil, List.append_nil, List.length_cons, List.length_nil]
    exact ho'

end Go.Proofs.YtfknplcnfpincaaGreat
