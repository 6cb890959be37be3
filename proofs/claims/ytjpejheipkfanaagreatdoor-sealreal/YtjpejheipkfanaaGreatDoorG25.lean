/-
  2 texts in one. No statement of the seat is proved here.
-/
import Derived.Test.YtjpejheipkfanaaGreatDoorG24

/-
  The contract of layer 12's reference's Seal. Conditions: what stands beside and texts of at most 300 bytes, a book of at most a thousand things.
-/
namespace Go.Proofs.YtjpejheipkfanaaGreatDoor
open Go.RowKit
set_option linter.unusedVariables false

theorem resCTT12 {fn : Func} {p t u : Tmp} {ty : TypeId} (h : fn.results = #[.cell p ty, .tmp t, .tmp u]) (tmps : Array Value) (w : World) (g : Nat) (cs : Array Value) (hp : tmps.getD p undef = .pointer (some ⟨g, 0, none⟩)) (hl : (loadVar ty ⟨g, 0, none⟩).run Tryz.prog w = .ok (.agg cs) w) (x y : Value) (hx : tmps.getD t undef = x) (hy : tmps.getD u undef = y) : (results fn tmps).run Tryz.prog w = .ok (.tuple #[.agg cs, x, y]) w := by
  have hp' : tmps[p]?.getD undef = .pointer (some ⟨g, 0, none⟩) := by simpa using hp
  have hx' : tmps[t]?.getD undef = x := by simpa using hx
  have hy' : tmps[u]?.getD undef = y := by simpa using hy
  simp [results, h, hp', hx', hy', asAddr, hl]
theorem SeaS.seal_noted (S : SeaS) (k n b t : List UInt8) : S.seal k n b t = ({ S with count := S.next } : SeaS).noted k n b t (S.made k n b t) := rfl
theorem builtEn4 (a b c d : Value) (ha : a.oneCell' = true) (hb : b.oneCell' = true) (hc : c.oneCell' = true) (hd : d.oneCell' = true) : True := trivial
/-- All of A but one block. -/
def Off (A : Nat → Prop) (x : Nat) : Nat → Prop := fun j => A j ∧ j ≠ x
theorem BA.off {A : Nat → Prop} {w : World} {x : Nat} {p : Option Addr} {m q : Nat} {l : List UInt8} (h : BA A w p m q l) (hx : w.heap.size ≤ x) : BA (Off A x) w p m q l := h.mono' fun j hj ha => ⟨ha, by omega⟩
theorem RS.mono {A A' : Nat → Prop} {w : World} {S : SeaS} {d : Du} (h : RS A w S d) (hA : ∀ j, j < w.heap.size → A j → A' j) : RS A' w S d := ⟨h.book.mono (elE.mono hA) hA, h.kids.mono (elD.mono hA) hA⟩
theorem RS.off {A : Nat → Prop} {w : World} {x : Nat} {S : SeaS} {d : Du} (h : RS A w S d) (hx : w.heap.size ≤ x) : RS (Off A x) w S d := h.mono fun j hj ha => ⟨ha, by omega⟩
/-- What Seal answers. -/
def SealsR (A : Nat → Prop) (S' : SeaS) (l : List UInt8) (w : World) (e : Ending) (w' : World) : Prop := ∃ d' a m c, e = .returned (.tuple #[rsV S' d', .slice a m c, .int .i64 0]) ∧ RS A w' S' d' ∧ BA A w' a m c l ∧ Below w.heap.size w w'

set_option maxRecDepth 100000 in
set_option maxHeartbeats 4000000 in
theorem rSeal12 (w : World) {A : Nat → Prop} (hA : ∀ j, w.heap.size ≤ j → A j) {S : SeaS} {d : Du} (h : RS A w S d) {k n b t : List UInt8} {ak an ab at' : Option Addr} {ck cn nb cb nt ct : Nat} (hk : BA A w ak 32 ck k) (hn : BA A w an 12 cn n) (hb : BA A w ab nb cb b) (ht : BA A w at' nt ct t) (zb : nb ≤ 300) (zt : nt ≤ 300) (hz : S.book.length ≤ 1000) (hq : S.count ≤ 1000000) :
    Calls Tryz.prog 22 #[rsV S d, .slice ak 32 ck, .slice an 12 cn, .slice ab nb cb, .slice at' nt ct] w (SealsR A (S.seal k n b t) (S.made k n b t) w) := by
  have HR : Hid (RS A w S d) := h
  have HK : Hid (BA A w ak 32 ck k) := hk
  have HN : Hid (BA A w an 12 cn n) := hn
  have HB : Hid (BA A w ab nb cb b) := hb
  have HT : Hid (BA A w at' nt ct t) := ht
  have HAA : Hid (∀ j, w.heap.size ≤ j → A j) := hA
  have HZ : Hid (S.book.length ≤ 1000) := hz
  have HTL : Hid (t.length = nt) := ht.1.len
  have HKL : Hid ((keyF k).length = 240) := keyF_length hk.1.len
  clear h hk hn hb ht hA hz
  obtain ⟨ba, bn, bc, ca, cn', cc⟩ := d
  obtain ⟨si, sb, sk, sq, sr, sf⟩ := S
  dsimp only at hq HZ
  have HSN : Hid (SeaS.seal ⟨si, sb, sk, sq, sr, sf⟩ k n b t = (⟨si, sb, sk, SeaS.next ⟨si, sb, sk, sq, sr, sf⟩, sr, sf⟩ : SeaS).noted k n b t (SeaS.made ⟨si, sb, sk, sq, sr, sf⟩ k n b t)) := SeaS.seal_noted _ _ _ _ _
  have hbE : ∀ (p0 p1 p2 p3 : Option Addr) (m0 q0 m1 q1 m2 q2 m3 q3 : Nat), Tryz.prog.built 88 [(0, .slice p0 m0 q0), (1, .slice p1 m1 q1), (2, .slice p2 m2 q2), (3, .slice p3 m3 q3)] = some #[.slice p0 m0 q0, .slice p1 m1 q1, .slice p2 m2 q2, .slice p3 m3 q3, .slice none 0 0] := fun _ _ _ _ _ _ _ _ _ _ _ _ => by kernel_rfl
  show Calls Tryz.prog _ #[.agg #[.bool si, .slice ba bn bc, .slice ca cn' cc, .int .u64 (sq : Int), .bool sr, .bool sf], _, _, _, _] w _
  cases si with
  | false =>
    have HM : Hid (SeaS.made ⟨false, sb, sk, sq, sr, sf⟩ k n b t = sealL (keyF k) n b t ∧ SeaS.next ⟨false, sb, sk, sq, sr, sf⟩ = sq) := ⟨rfl, rfl⟩
    go_enter Tryz.func22, Tryz.ntmps22
    go_upto_region 8 with fail
    obtain ⟨x5, hx5⟩ : ∃ x, x = w.heap.size := ⟨_, rfl⟩
    obtain ⟨x10, hx10⟩ : ∃ x, x = w.heap.size + 1 := ⟨_, rfl⟩
    obtain ⟨x13, hx13⟩ : ∃ x, x = w.heap.size + 1 + 1 := ⟨_, rfl⟩
    obtain ⟨x14, hx14⟩ : ∃ x, x = w.heap.size + 1 + 1 + 1 := ⟨_, rfl⟩
    clear hbE
    have q1 : Below w.heap.size w ((((w.alloc (.cells #[.bool false, .slice ba bn bc, .slice ca cn' cc, .int .u64 (sq : Int), .bool sr, .bool sf] 31)).alloc (.cells #[.bool false, .slice none 0 0, .slice none 0 0, .int .u64 0, .bool false, .bool false] 31)).alloc (.cells #[.bool false, .slice ba bn bc, .slice ca cn' cc, .int .u64 ((sq : Int)), .bool sr, .bool sf] 31)).alloc (.cells #[.slice ak 32 ck, .slice an 12 cn, .slice ab nb cb, .slice at' nt ct, .slice none 0 0] 88)) := (((below_alloc w _).trans ((below_alloc _ _).mono (by simp))).trans ((below_alloc _ _).mono (by simp; omega))).trans ((below_alloc _ _).mono (by simp; omega))
    have B10 : Blk ((((w.alloc (.cells #[.bool false, .slice ba bn bc, .slice ca cn' cc, .int .u64 (sq : Int), .bool sr, .bool sf] 31)).alloc (.cells #[.bool false, .slice none 0 0, .slice none 0 0, .int .u64 0, .bool false, .bool false] 31)).alloc (.cells #[.bool false, .slice ba bn bc, .slice ca cn' cc, .int .u64 ((sq : Int)), .bool sr, .bool sf] 31)).alloc (.cells #[.slice ak 32 ck, .slice an 12 cn, .slice ab nb cb, .slice at' nt ct, .slice none 0 0] 88)) (w.heap.size + 1) [.bool false, .slice none 0 0, .slice none 0 0, .int .u64 0, .bool false, .bool false] 31 := ((Blk.newAt (w.alloc (.cells #[.bool false, .slice ba bn bc, .slice ca cn' cc, .int .u64 (sq : Int), .bool sr, .bool sf] 31)) _ _ _ (by simp) _ rfl).old _).old _
    have B13 : Blk ((((w.alloc (.cells #[.bool false, .slice ba bn bc, .slice ca cn' cc, .int .u64 (sq : Int), .bool sr, .bool sf] 31)).alloc (.cells #[.bool false, .slice none 0 0, .slice none 0 0, .int .u64 0, .bool false, .bool false] 31)).alloc (.cells #[.bool false, .slice ba bn bc, .slice ca cn' cc, .int .u64 ((sq : Int)), .bool sr, .bool sf] 31)).alloc (.cells #[.slice ak 32 ck, .slice an 12 cn, .slice ab nb cb, .slice at' nt ct, .slice none 0 0] 88)) (w.heap.size + 1 + 1) [.bool false, .slice ba bn bc, .slice ca cn' cc, .int .u64 ((sq : Int)), .bool sr, .bool sf] 31 := (Blk.newAt ((w.alloc (.cells #[.bool false, .slice ba bn bc, .slice ca cn' cc, .int .u64 (sq : Int), .bool sr, .bool sf] 31)).alloc (.cells #[.bool false, .slice none 0 0, .slice none 0 0, .int .u64 0, .bool false, .bool false] 31)) _ _ _ (by simp) _ rfl).old _
    have B14 : Blk ((((w.alloc (.cells #[.bool false, .slice ba bn bc, .slice ca cn' cc, .int .u64 (sq : Int), .bool sr, .bool sf] 31)).alloc (.cells #[.bool false, .slice none 0 0, .slice none 0 0, .int .u64 0, .bool false, .bool false] 31)).alloc (.cells #[.bool false, .slice ba bn bc, .slice ca cn' cc, .int .u64 ((sq : Int)), .bool sr, .bool sf] 31)).alloc (.cells #[.slice ak 32 ck, .slice an 12 cn, .slice ab nb cb, .slice at' nt ct, .slice none 0 0] 88)) (w.heap.size + 1 + 1 + 1) [.slice ak 32 ck, .slice an 12 cn, .slice ab nb cb, .slice at' nt ct, .slice none 0 0] 88 := Blk.newAt (((w.alloc (.cells #[.bool false, .slice ba bn bc, .slice ca cn' cc, .int .u64 (sq : Int), .bool sr, .bool sf] 31)).alloc (.cells #[.bool false, .slice none 0 0, .slice none 0 0, .int .u64 0, .bool false, .bool false] 31)).alloc (.cells #[.bool false, .slice ba bn bc, .slice ca cn' cc, .int .u64 ((sq : Int)), .bool sr, .bool sf] 31)) _ _ _ (by simp) _ rfl
    rw [← hx14] at B14 ⊢
    rw [← hx13] at B13 ⊢
    rw [← hx10] at B10 ⊢
    rw [← hx5]
    have hxx : x10 < x13 ∧ x13 < x14 ∧ w.heap.size ≤ x10 := by omega
    clear hx5 hx10 hx13 hx14
    generalize (((w.alloc (.cells #[.bool false, .slice ba bn bc, .slice ca cn' cc, .int .u64 (sq : Int), .bool sr, .bool sf] 31)).alloc (.cells #[.bool false, .slice none 0 0, .slice none 0 0, .int .u64 0, .bool false, .bool false] 31)).alloc (.cells #[.bool false, .slice ba bn bc, .slice ca cn' cc, .int .u64 ((sq : Int)), .bool sr, .bool sf] 31)).alloc (.cells #[.slice ak 32 ck, .slice an 12 cn, .slice ab nb cb, .slice at' nt ct, .slice none 0 0] 88) = w1 at *
    have CN := rNewK w1 (HK.out.below' q1).1
    go_wp2_with fail
    refine CN.mono ?_
    rintro e w0 ⟨k1, k2, k3, y1, y2, y3, rfl, hKR, hb0⟩
    have q0 : Below w.heap.size w w0 := q1.trans (hb0.mono q1.size)
    clear CN
    go_wp2_with fail
    refine (rSeal w0 hKR HKL.out (HN.out.below' q0).1 (HB.out.below' q0).1 (HT.out.below' q0).1 (by omega) (by omega)).mono ?_
    rintro e w2 ⟨az, mz, cz, rfl, oz, hbz0⟩
    rw [← HM.out.1] at oz
    have q2 : Below w.heap.size w w2 := q0.trans (hbz0.mono q0.size)
    have hbz1 : Below w1.heap.size w1 w2 := hb0.trans (hbz0.mono hb0.size)
    obtain ⟨Z, hZ⟩ : ∃ Z, Z = SeaS.made ⟨false, sb, sk, sq, sr, sf⟩ k n b t := ⟨_, rfl⟩
    rw [← hZ] at oz
    have HZZ : Hid (Z = SeaS.made ⟨false, sb, sk, sq, sr, sf⟩ k n b t) := hZ
    have B142 := B14.below hbz1 B14.lt
    have c144 : w2.cell? ⟨x14, 4, none⟩ = some (.slice none 0 0) := B142.cell 4
    have f144 := B142.free 4
    have l14 := B142.lt
    have k23 : Kp (fun j => j = x14) w2 (w2.setCell ⟨x14, 4, none⟩ (.slice az mz cz)) := Kp.of_grown (but_set w2 x14 4 _)
    have B143 : Hid (Blk (w2.setCell ⟨x14, 4, none⟩ (.slice az mz cz)) x14 [.slice ak 32 ck, .slice an 12 cn, .slice ab nb cb, .slice at' nt ct, .slice az mz cz] 88) := B142.setC 4 (.slice az mz cz)
    have B133 : Hid (Blk (w2.setCell ⟨x14, 4, none⟩ (.slice az mz cz)) x13 [.bool false, .slice ba bn bc, .slice ca cn' cc, .int .u64 ((sq : Int)), .bool sr, .bool sf] 31) := k23.blk (B13.below hbz1 B13.lt) (by omega)
    have B103 : Hid (Blk (w2.setCell ⟨x14, 4, none⟩ (.slice az mz cz)) x10 [.bool false, .slice none 0 0, .slice none 0 0, .int .u64 0, .bool false, .bool false] 31) := k23.blk (B10.below hbz1 B10.lt) (by omega)
    have Q3 : Hid (Below w.heap.size w (w2.setCell ⟨x14, 4, none⟩ (.slice az mz cz))) := Kp.new q2 k23 fun j hj => by omega
    have hx1 : x14 < w1.heap.size := B14.lt
    have BZ : Hid (BA (Off A x10) (w2.setCell ⟨x14, 4, none⟩ (.slice az mz cz)) az mz cz Z) := (BA.kp oz.ba k23 fun j hj e => by have := q1.size; have := hb0.size; omega).mono' fun j _ hj => ⟨HAA.out j (by have := q1.size; have := hb0.size; omega), by have := q1.size; have := hb0.size; omega⟩
    have R3 : Hid (RS (Off A x10) (w2.setCell ⟨x14, 4, none⟩ (.slice az mz cz)) (⟨false, sb, sk, sq, sr, sf⟩ : SeaS) ⟨ba, bn, bc, ca, cn', cc⟩) := ⟨((HR.out.off (by omega)).grow Q3.out).book, ((HR.out.off (by omega)).grow Q3.out).kids⟩
    clear B142 k23 oz hbz1 B14 B13 B10 q1 q2 hZ hx1 hKR hb0 q0 hbz0
    go_upto_region 10 with fail
    generalize w2.setCell ⟨x14, 4, none⟩ (.slice az mz cz) = w3 at *
    have B13 := B133
    have B14 := B143
    have B10 := B103
    clear B133 B143 B103 c144 f144
    have F4 : ∀ u, Kp (fun j => j = x10) w3 u → u.cell? ⟨x14, 4, none⟩ = some (.slice az mz cz) := fun u hu => (hu.blk B14.out (by omega)).cell 4
    refine regionG (S := Kp (fun j => j = x10) w3) (by kernel_rfl) (Kp.of_below (Below.refl _ w3).drew) ?_
    refine takeG 0 (some 56) (.agg ([.bool false, .slice ba bn bc, .slice ca cn' cc, .int .u64 ((sq : Int)), .bool sr, .bool sf]).toArray) rfl rfl (by kernel_rfl) (by kernel_rfl) (by kernel_rfl) (fun _ _ _ h => h) (ans_row 31 (.tmp 13) _ 6 rfl (by rfl) x13 0 rfl [.bool false, .slice ba bn bc, .slice ca cn' cc, .int .u64 ((sq : Int)), .bool sr, .bool sf] (fun u hu => (hu.blk B13.out (by omega)).whole) Tryz.underlying31 rfl rfl sizeRS) ?_
    simp only [Act.put, List.setIfInBounds_toArray, List.set_cons_zero, List.set_cons_succ]
    refine takeG 1 (some 57) (.agg ([.slice ak 32 ck, .slice an 12 cn, .slice ab nb cb, .slice at' nt ct, .slice az mz cz] : List Value).toArray) rfl rfl (by kernel_rfl) (by kernel_rfl) (by kernel_rfl) (fun _ _ _ h => h) (ans_row 88 (.tmp 14) _ 5 rfl (by rfl) x14 0 rfl [.slice ak 32 ck, .slice an 12 cn, .slice ab nb cb, .slice at' nt ct, .slice az mz cz] (fun u hu => (hu.blk B14.out (by omega)).whole) Tryz.underlying88 rfl rfl sizeEn5) ?_
    simp only [Act.put, List.setIfInBounds_toArray, List.set_cons_zero, List.set_cons_succ]
    refine takeG 3 (some 59) (.pointer (some ⟨x14, 4, none⟩)) rfl rfl (by kernel_rfl) (by kernel_rfl) (by kernel_rfl) (fun _ _ _ h => h) (ans_plain (by rfl) (fun w _ => by unfold execOp; go_simp)) ?_
    simp only [Act.put, List.setIfInBounds_toArray, List.set_cons_zero, List.set_cons_succ]
    refine takeG 4 (some 60) (.slice az mz cz) rfl rfl (by kernel_rfl) (by kernel_rfl) (by kernel_rfl) (fun _ _ _ h => h) (ans_plain (by rfl) (fun w h => by have hc := F4 w h; unfold execOp; go_simp)) ?_
    simp only [Act.put, List.setIfInBounds_toArray, List.set_cons_zero, List.set_cons_succ]
    refine callG 2 (some 58) 44 #[.tmp 56, .tmp 57] #[31, 88] #[rsV (⟨false, sb, sk, sq, sr, sf⟩ : SeaS) ⟨ba, bn, bc, ca, cn', cc⟩, .agg #[.slice ak 32 ck, .slice an 12 cn, .slice ab nb cb, .slice at' nt ct, .slice az mz cz]] rfl rfl rfl (by rfl) (by rfl) (by kernel_rfl) Tryz.call44 fun w4 hg4 hs4 => ?_
    have q4 : Below w3.heap.size w3 w4 := Grows.ofDrew hg4
    have Q4 : Below w.heap.size w w4 := Q3.out.trans (q4.mono Q3.out.size)
    refine (rNoted12 w4 (A := Off A x10) (fun j hj => ⟨HAA.out j (Nat.le_trans Q4.size hj), by have := q4.size; have := B10.out.lt; omega⟩) (S := (⟨false, sb, sk, sq, sr, sf⟩ : SeaS)) (d := ⟨ba, bn, bc, ca, cn', cc⟩) (R3.out.grow q4) ((HK.out.off (by omega)).below' Q4) ((HN.out.off (by omega)).below' Q4) ((HB.out.off (by omega)).below' Q4) ((HT.out.off (by omega)).below' Q4) (BZ.out.below' q4) HZ.out).mono ?_
    rintro e w5 ⟨d2, rfl, hR5, hb5⟩
    refine ⟨_, rfl, hs4.trans (Kp.of_below hb5), ?_⟩
    simp only [Act.put, List.setIfInBounds_toArray, List.set_cons_zero, List.set_cons_succ]
    have q5 : Below w3.heap.size w3 w5 := q4.trans (hb5.mono q4.size)
    refine oneG 5 (by kernel_rfl) fun w6 hg6 hs6 => ?_
    have q6 : Below w3.heap.size w3 w6 := q5.trans (Below.mono hg6 q5.size)
    refine opStR 5 31 (.tmp 10) (.tmp 58) 6 rfl rfl rfl rfl x10 [.bool false, .slice none 0 0, .slice none 0 0, .int .u64 0, .bool false, .bool false] (rsC ((⟨false, sb, sk, sq, sr, sf⟩ : SeaS).noted k n b t Z) d2) 31 (B10.out.below q6 B10.out.lt) rfl rfl (rsC_one _ _) sizeRS rfl rfl fun w7 B7 k7 => ?_
    refine ⟨hs6.trans k7, ?_⟩
    refine takeG 6 (some 11) (.slice az mz cz) rfl rfl (by kernel_rfl) (by kernel_rfl) (by kernel_rfl) (fun _ _ _ h => h) (ans_plain (by rfl) (fun w _ => rfl)) ?_
    simp only [Act.put, List.setIfInBounds_toArray, List.set_cons_zero, List.set_cons_succ]
    refine takeG 7 (some 12) (.int .i64 0) rfl rfl (by kernel_rfl) (by kernel_rfl) (by kernel_rfl) (fun _ _ _ h => h) (ans_plain (by rfl) (fun w _ => rfl)) ?_
    simp only [Act.put, List.setIfInBounds_toArray, List.set_cons_zero, List.set_cons_succ]
    refine doneG (by kernel_rfl) fun w8 hg8 hs8 => ?_
    have hx : w.heap.size ≤ x10 := by omega
    have Q6 : Below w.heap.size w w6 := Q3.out.trans (q6.mono Q3.out.size)
    have Q8 : Hid (Below w.heap.size w w8) := Below.trans (Kp.new Q6 k7 fun j hj => by omega) (Below.mono hg8 (Below.size (Kp.new Q6 k7 fun j hj => by omega)))
    have q58 : Kp (fun j => j = x10) w5 w8 := ((Kp.of_below hg6).trans k7).trans (Kp.of_below hg8)
    have lx10 : x10 < w3.heap.size := B10.out.lt
    have B8 : Hid (Blk w8 x10 (rsC ((⟨false, sb, sk, sq, sr, sf⟩ : SeaS).noted k n b t Z) d2) 31) := B7.grows hg8
    have R8 : Hid (RS A w8 ((⟨false, sb, sk, sq, sr, sf⟩ : SeaS).noted k n b t Z) d2) := (hR5.kp q58 fun j hj e => hj.2 e).mono fun j _ hj => hj.1
    have Z8 : Hid (BA A w8 az mz cz Z) := ((BZ.out.below' q5).kp q58 fun j hj e => hj.2 e).mono' fun j _ hj => hj.1
    clear hR5 hb5 hs4 hg4 q4 Q4 q5 hg6 hs6 q6 B7 k7 hg8 hs8 Q6 q58 F4
    go_wp2_with fail
    refine bodyPost_ret (v := .tuple #[rsV ((⟨false, sb, sk, sq, sr, sf⟩ : SeaS).noted k n b t Z) d2, .slice az mz cz, .int .i64 0]) (resCTT12 Tryz.results22 _ _ x10 _ rfl (run_loadVar_row _ x10 31 31 _ (0, 0) _ B8.out Tryz.underlying31 rfl sizeRS) _ _ rfl rfl) rfl ?_
    exact ⟨d2, az, mz, cz, by rw [HSN.out, HM.out.2, ← HZZ.out], by rw [HSN.out, HM.out.2, ← HZZ.out]; exact R8.out, by rw [← HZZ.out]; exact Z8.out, Q8.out⟩
  | true =>
    have HM : Hid (SeaS.made ⟨true, sb, sk, sq, sr, sf⟩ k n b t = noiseL (sq + 1) (nt + 16) ∧ SeaS.next ⟨true, sb, sk, sq, sr, sf⟩ = sq + 1) := ⟨by unfold SeaS.made; rw [if_pos rfl, HTL.out], rfl⟩
    go_enter Tryz.func22, Tryz.ntmps22
    go_upto_region 7 with fail
    obtain ⟨x5, hx5⟩ : ∃ x, x = w.heap.size := ⟨_, rfl⟩
    obtain ⟨x10, hx10⟩ : ∃ x, x = w.heap.size + 1 := ⟨_, rfl⟩
    obtain ⟨x13, hx13⟩ : ∃ x, x = w.heap.size + 1 + 1 := ⟨_, rfl⟩
    obtain ⟨x14, hx14⟩ : ∃ x, x = w.heap.size + 1 + 1 + 1 := ⟨_, rfl⟩
    clear hbE
    have q1 : Below w.heap.size w ((((w.alloc (.cells #[.bool true, .slice ba bn bc, .slice ca cn' cc, .int .u64 (sq : Int), .bool sr, .bool sf] 31)).alloc (.cells #[.bool false, .slice none 0 0, .slice none 0 0, .int .u64 0, .bool false, .bool false] 31)).alloc (.cells #[.bool true, .slice ba bn bc, .slice ca cn' cc, .int .u64 ((sq : Int) + 1), .bool sr, .bool sf] 31)).alloc (.cells #[.slice ak 32 ck, .slice an 12 cn, .slice ab nb cb, .slice at' nt ct, .slice none 0 0] 88)) := (((below_alloc w _).trans ((below_alloc _ _).mono (by simp))).trans ((below_alloc _ _).mono (by simp; omega))).trans ((below_alloc _ _).mono (by simp; omega))
    have B10 : Blk ((((w.alloc (.cells #[.bool true, .slice ba bn bc, .slice ca cn' cc, .int .u64 (sq : Int), .bool sr, .bool sf] 31)).alloc (.cells #[.bool false, .slice none 0 0, .slice none 0 0, .int .u64 0, .bool false, .bool false] 31)).alloc (.cells #[.bool true, .slice ba bn bc, .slice ca cn' cc, .int .u64 ((sq : Int) + 1), .bool sr, .bool sf] 31)).alloc (.cells #[.slice ak 32 ck, .slice an 12 cn, .slice ab nb cb, .slice at' nt ct, .slice none 0 0] 88)) (w.heap.size + 1) [.bool false, .slice none 0 0, .slice none 0 0, .int .u64 0, .bool false, .bool false] 31 := ((Blk.newAt (w.alloc (.cells #[.bool true, .slice ba bn bc, .slice ca cn' cc, .int .u64 (sq : Int), .bool sr, .bool sf] 31)) _ _ _ (by simp) _ rfl).old _).old _
    have B13 : Blk ((((w.alloc (.cells #[.bool true, .slice ba bn bc, .slice ca cn' cc, .int .u64 (sq : Int), .bool sr, .bool sf] 31)).alloc (.cells #[.bool false, .slice none 0 0, .slice none 0 0, .int .u64 0, .bool false, .bool false] 31)).alloc (.cells #[.bool true, .slice ba bn bc, .slice ca cn' cc, .int .u64 ((sq : Int) + 1), .bool sr, .bool sf] 31)).alloc (.cells #[.slice ak 32 ck, .slice an 12 cn, .slice ab nb cb, .slice at' nt ct, .slice none 0 0] 88)) (w.heap.size + 1 + 1) [.bool true, .slice ba bn bc, .slice ca cn' cc, .int .u64 ((sq : Int) + 1), .bool sr, .bool sf] 31 := (Blk.newAt ((w.alloc (.cells #[.bool true, .slice ba bn bc, .slice ca cn' cc, .int .u64 (sq : Int), .bool sr, .bool sf] 31)).alloc (.cells #[.bool false, .slice none 0 0, .slice none 0 0, .int .u64 0, .bool false, .bool false] 31)) _ _ _ (by simp) _ rfl).old _
    have B14 : Blk ((((w.alloc (.cells #[.bool true, .slice ba bn bc, .slice ca cn' cc, .int .u64 (sq : Int), .bool sr, .bool sf] 31)).alloc (.cells #[.bool false, .slice none 0 0, .slice none 0 0, .int .u64 0, .bool false, .bool false] 31)).alloc (.cells #[.bool true, .slice ba bn bc, .slice ca cn' cc, .int .u64 ((sq : Int) + 1), .bool sr, .bool sf] 31)).alloc (.cells #[.slice ak 32 ck, .slice an 12 cn, .slice ab nb cb, .slice at' nt ct, .slice none 0 0] 88)) (w.heap.size + 1 + 1 + 1) [.slice ak 32 ck, .slice an 12 cn, .slice ab nb cb, .slice at' nt ct, .slice none 0 0] 88 := Blk.newAt (((w.alloc (.cells #[.bool true, .slice ba bn bc, .slice ca cn' cc, .int .u64 (sq : Int), .bool sr, .bool sf] 31)).alloc (.cells #[.bool false, .slice none 0 0, .slice none 0 0, .int .u64 0, .bool false, .bool false] 31)).alloc (.cells #[.bool true, .slice ba bn bc, .slice ca cn' cc, .int .u64 ((sq : Int) + 1), .bool sr, .bool sf] 31)) _ _ _ (by simp) _ rfl
    rw [← hx14] at B14 ⊢
    rw [← hx13] at B13 ⊢
    rw [← hx10] at B10 ⊢
    rw [← hx5]
    have hxx : x10 < x13 ∧ x13 < x14 ∧ w.heap.size ≤ x10 := by omega
    clear hx5 hx10 hx13 hx14
    generalize (((w.alloc (.cells #[.bool true, .slice ba bn bc, .slice ca cn' cc, .int .u64 (sq : Int), .bool sr, .bool sf] 31)).alloc (.cells #[.bool false, .slice none 0 0, .slice none 0 0, .int .u64 0, .bool false, .bool false] 31)).alloc (.cells #[.bool true, .slice ba bn bc, .slice ca cn' cc, .int .u64 ((sq : Int) + 1), .bool sr, .bool sf] 31)).alloc (.cells #[.slice ak 32 ck, .slice an 12 cn, .slice ab nb cb, .slice at' nt ct, .slice none 0 0] 88) = w1 at *
    have c133 : w1.cell? ⟨x13, 3, none⟩ = some (.int .u64 ((sq : Int) + 1)) := B13.cell 3
    have l13 := B13.lt
    have hsq : (sq : Int) + 1 ≤ 1000001 := by omega
    go_wp2_with fail
    refine (rNoise ((sq : Int) + 1) ((nt : Int) + 16) w1 (by omega) (by omega) (by omega) (by omega)).mono ?_
    rintro e w2 ⟨az, mz, cz, rfl, oz, hbz⟩
    rw [show ((sq : Int) + 1).toNat = sq + 1 from by omega, show ((nt : Int) + 16).toNat = nt + 16 from by omega, ← HM.out.1] at oz
    have q2 : Below w.heap.size w w2 := q1.trans (hbz.mono q1.size)
    have hbz1 := hbz
    clear c133 l13 hsq
    obtain ⟨Z, hZ⟩ : ∃ Z, Z = SeaS.made ⟨true, sb, sk, sq, sr, sf⟩ k n b t := ⟨_, rfl⟩
    rw [← hZ] at oz
    have HZZ : Hid (Z = SeaS.made ⟨true, sb, sk, sq, sr, sf⟩ k n b t) := hZ
    have B142 := B14.below hbz1 B14.lt
    have c144 : w2.cell? ⟨x14, 4, none⟩ = some (.slice none 0 0) := B142.cell 4
    have f144 := B142.free 4
    have l14 := B142.lt
    have k23 : Kp (fun j => j = x14) w2 (w2.setCell ⟨x14, 4, none⟩ (.slice az mz cz)) := Kp.of_grown (but_set w2 x14 4 _)
    have B143 : Hid (Blk (w2.setCell ⟨x14, 4, none⟩ (.slice az mz cz)) x14 [.slice ak 32 ck, .slice an 12 cn, .slice ab nb cb, .slice at' nt ct, .slice az mz cz] 88) := B142.setC 4 (.slice az mz cz)
    have B133 : Hid (Blk (w2.setCell ⟨x14, 4, none⟩ (.slice az mz cz)) x13 [.bool true, .slice ba bn bc, .slice ca cn' cc, .int .u64 ((sq : Int) + 1), .bool sr, .bool sf] 31) := k23.blk (B13.below hbz1 B13.lt) (by omega)
    have B103 : Hid (Blk (w2.setCell ⟨x14, 4, none⟩ (.slice az mz cz)) x10 [.bool false, .slice none 0 0, .slice none 0 0, .int .u64 0, .bool false, .bool false] 31) := k23.blk (B10.below hbz1 B10.lt) (by omega)
    have Q3 : Hid (Below w.heap.size w (w2.setCell ⟨x14, 4, none⟩ (.slice az mz cz))) := Kp.new q2 k23 fun j hj => by omega
    have hx1 : x14 < w1.heap.size := B14.lt
    have BZ : Hid (BA (Off A x10) (w2.setCell ⟨x14, 4, none⟩ (.slice az mz cz)) az mz cz Z) := (BA.kp oz.ba k23 fun j hj e => by have := q1.size; omega).mono' fun j _ hj => ⟨HAA.out j (by have := q1.size; omega), by have := q1.size; omega⟩
    have R3 : Hid (RS (Off A x10) (w2.setCell ⟨x14, 4, none⟩ (.slice az mz cz)) (⟨true, sb, sk, sq + 1, sr, sf⟩ : SeaS) ⟨ba, bn, bc, ca, cn', cc⟩) := ⟨((HR.out.off (by omega)).grow Q3.out).book, ((HR.out.off (by omega)).grow Q3.out).kids⟩
    clear B142 k23 oz hbz1 B14 B13 B10 q1 q2 hZ hx1 hbz
    go_upto_region 10 with fail
    generalize w2.setCell ⟨x14, 4, none⟩ (.slice az mz cz) = w3 at *
    have B13 := B133
    have B14 := B143
    have B10 := B103
    clear B133 B143 B103 c144 f144
    have F4 : ∀ u, Kp (fun j => j = x10) w3 u → u.cell? ⟨x14, 4, none⟩ = some (.slice az mz cz) := fun u hu => (hu.blk B14.out (by omega)).cell 4
    refine regionG (S := Kp (fun j => j = x10) w3) (by kernel_rfl) (Kp.of_below (Below.refl _ w3).drew) ?_
    refine takeG 0 (some 56) (.agg ([.bool true, .slice ba bn bc, .slice ca cn' cc, .int .u64 ((sq : Int) + 1), .bool sr, .bool sf]).toArray) rfl rfl (by kernel_rfl) (by kernel_rfl) (by kernel_rfl) (fun _ _ _ h => h) (ans_row 31 (.tmp 13) _ 6 rfl (by rfl) x13 0 rfl [.bool true, .slice ba bn bc, .slice ca cn' cc, .int .u64 ((sq : Int) + 1), .bool sr, .bool sf] (fun u hu => (hu.blk B13.out (by omega)).whole) Tryz.underlying31 rfl rfl sizeRS) ?_
    simp only [Act.put, List.setIfInBounds_toArray, List.set_cons_zero, List.set_cons_succ]
    refine takeG 1 (some 57) (.agg ([.slice ak 32 ck, .slice an 12 cn, .slice ab nb cb, .slice at' nt ct, .slice az mz cz] : List Value).toArray) rfl rfl (by kernel_rfl) (by kernel_rfl) (by kernel_rfl) (fun _ _ _ h => h) (ans_row 88 (.tmp 14) _ 5 rfl (by rfl) x14 0 rfl [.slice ak 32 ck, .slice an 12 cn, .slice ab nb cb, .slice at' nt ct, .slice az mz cz] (fun u hu => (hu.blk B14.out (by omega)).whole) Tryz.underlying88 rfl rfl sizeEn5) ?_
    simp only [Act.put, List.setIfInBounds_toArray, List.set_cons_zero, List.set_cons_succ]
    refine takeG 3 (some 59) (.pointer (some ⟨x14, 4, none⟩)) rfl rfl (by kernel_rfl) (by kernel_rfl) (by kernel_rfl) (fun _ _ _ h => h) (ans_plain (by rfl) (fun w _ => by unfold execOp; go_simp)) ?_
    simp only [Act.put, List.setIfInBounds_toArray, List.set_cons_zero, List.set_cons_succ]
    refine takeG 4 (some 60) (.slice az mz cz) rfl rfl (by kernel_rfl) (by kernel_rfl) (by kernel_rfl) (fun _ _ _ h => h) (ans_plain (by rfl) (fun w h => by have hc := F4 w h; unfold execOp; go_simp)) ?_
    simp only [Act.put, List.setIfInBounds_toArray, List.set_cons_zero, List.set_cons_succ]
    refine callG 2 (some 58) 44 #[.tmp 56, .tmp 57] #[31, 88] #[rsV (⟨true, sb, sk, sq + 1, sr, sf⟩ : SeaS) ⟨ba, bn, bc, ca, cn', cc⟩, .agg #[.slice ak 32 ck, .slice an 12 cn, .slice ab nb cb, .slice at' nt ct, .slice az mz cz]] rfl rfl rfl (by rfl) (by rfl) (by kernel_rfl) Tryz.call44 fun w4 hg4 hs4 => ?_
    have q4 : Below w3.heap.size w3 w4 := Grows.ofDrew hg4
    have Q4 : Below w.heap.size w w4 := Q3.out.trans (q4.mono Q3.out.size)
    refine (rNoted12 w4 (A := Off A x10) (fun j hj => ⟨HAA.out j (Nat.le_trans Q4.size hj), by have := q4.size; have := B10.out.lt; omega⟩) (S := (⟨true, sb, sk, sq + 1, sr, sf⟩ : SeaS)) (d := ⟨ba, bn, bc, ca, cn', cc⟩) (R3.out.grow q4) ((HK.out.off (by omega)).below' Q4) ((HN.out.off (by omega)).below' Q4) ((HB.out.off (by omega)).below' Q4) ((HT.out.off (by omega)).below' Q4) (BZ.out.below' q4) HZ.out).mono ?_
    rintro e w5 ⟨d2, rfl, hR5, hb5⟩
    refine ⟨_, rfl, hs4.trans (Kp.of_below hb5), ?_⟩
    simp only [Act.put, List.setIfInBounds_toArray, List.set_cons_zero, List.set_cons_succ]
    have q5 : Below w3.heap.size w3 w5 := q4.trans (hb5.mono q4.size)
    refine oneG 5 (by kernel_rfl) fun w6 hg6 hs6 => ?_
    have q6 : Below w3.heap.size w3 w6 := q5.trans (Below.mono hg6 q5.size)
    refine opStR 5 31 (.tmp 10) (.tmp 58) 6 rfl rfl rfl rfl x10 [.bool false, .slice none 0 0, .slice none 0 0, .int .u64 0, .bool false, .bool false] (rsC ((⟨true, sb, sk, sq + 1, sr, sf⟩ : SeaS).noted k n b t Z) d2) 31 (B10.out.below q6 B10.out.lt) rfl rfl (rsC_one _ _) sizeRS rfl rfl fun w7 B7 k7 => ?_
    refine ⟨hs6.trans k7, ?_⟩
    refine takeG 6 (some 11) (.slice az mz cz) rfl rfl (by kernel_rfl) (by kernel_rfl) (by kernel_rfl) (fun _ _ _ h => h) (ans_plain (by rfl) (fun w _ => rfl)) ?_
    simp only [Act.put, List.setIfInBounds_toArray, List.set_cons_zero, List.set_cons_succ]
    refine takeG 7 (some 12) (.int .i64 0) rfl rfl (by kernel_rfl) (by kernel_rfl) (by kernel_rfl) (fun _ _ _ h => h) (ans_plain (by rfl) (fun w _ => rfl)) ?_
    simp only [Act.put, List.setIfInBounds_toArray, List.set_cons_zero, List.set_cons_succ]
    refine doneG (by kernel_rfl) fun w8 hg8 hs8 => ?_
    have hx : w.heap.size ≤ x10 := by omega
    have Q6 : Below w.heap.size w w6 := Q3.out.trans (q6.mono Q3.out.size)
    have Q8 : Hid (Below w.heap.size w w8) := Below.trans (Kp.new Q6 k7 fun j hj => by omega) (Below.mono hg8 (Below.size (Kp.new Q6 k7 fun j hj => by omega)))
    have q58 : Kp (fun j => j = x10) w5 w8 := ((Kp.of_below hg6).trans k7).trans (Kp.of_below hg8)
    have lx10 : x10 < w3.heap.size := B10.out.lt
    have B8 : Hid (Blk w8 x10 (rsC ((⟨true, sb, sk, sq + 1, sr, sf⟩ : SeaS).noted k n b t Z) d2) 31) := B7.grows hg8
    have R8 : Hid (RS A w8 ((⟨true, sb, sk, sq + 1, sr, sf⟩ : SeaS).noted k n b t Z) d2) := (hR5.kp q58 fun j hj e => hj.2 e).mono fun j _ hj => hj.1
    have Z8 : Hid (BA A w8 az mz cz Z) := ((BZ.out.below' q5).kp q58 fun j hj e => hj.2 e).mono' fun j _ hj => hj.1
    clear hR5 hb5 hs4 hg4 q4 Q4 q5 hg6 hs6 q6 B7 k7 hg8 hs8 Q6 q58 F4
    go_wp2_with fail
    refine bodyPost_ret (v := .tuple #[rsV ((⟨true, sb, sk, sq + 1, sr, sf⟩ : SeaS).noted k n b t Z) d2, .slice az mz cz, .int .i64 0]) (resCTT12 Tryz.results22 _ _ x10 _ rfl (run_loadVar_row _ x10 31 31 _ (0, 0) _ B8.out Tryz.underlying31 rfl sizeRS) _ _ rfl rfl) rfl ?_
    exact ⟨d2, az, mz, cz, by rw [HSN.out, HM.out.2, ← HZZ.out], by rw [HSN.out, HM.out.2, ← HZZ.out]; exact R8.out, by rw [← HZZ.out]; exact Z8.out, Q8.out⟩

end Go.Proofs.YtjpejheipkfanaaGreatDoor

/-
  The contract of layer 12's reference's Open; what Seal and Open answer where a key or a nonce has another size. Conditions: what stands beside and what is opened of at most 300 bytes, a book of at most a thousand things.
-/
namespace Go.Proofs.YtjpejheipkfanaaGreatDoor
open Go.RowKit
set_option linter.unusedVariables false

set_option maxRecDepth 100000 in
set_option maxHeartbeats 2000000 in
theorem rSeal12Not (w : World) {A : Nat → Prop} {S : SeaS} {d : Du} (h : RS A w S d) {ak an ab at' : Option Addr} {nk ck nn cn nb cb nt ct : Nat} (zk : nk ≤ 1000000) (hn : ¬ nk = 32) :
    Calls Tryz.prog 22 #[rsV S d, .slice ak nk ck, .slice an nn cn, .slice ab nb cb, .slice at' nt ct] w fun e w' => e = .returned (.tuple #[rsV S d, .slice none 0 0, .int .i64 17]) ∧ Below w.heap.size w w' := by
  have h1 : ((nk : Int) != 32) = true := by simp; omega
  obtain ⟨ba, bn, bc, ca, cn', cc⟩ := d
  obtain ⟨si, sb, sk, sq, sr, sf⟩ := S
  show Calls Tryz.prog _ #[.agg #[.bool si, .slice ba bn bc, .slice ca cn' cc, .int .u64 (sq : Int), .bool sr, .bool sf], _, _, _, _] w _
  go_enter Tryz.func22, Tryz.ntmps22
  go_wp2_with fail
  have bN : Blk ((w.alloc (.cells #[.bool si, .slice ba bn bc, .slice ca cn' cc, .int .u64 (sq : Int), .bool sr, .bool sf] 31)).alloc (.cells #[.bool si, .slice ba bn bc, .slice ca cn' cc, .int .u64 (sq : Int), .bool sr, .bool sf] 31)) (w.heap.size + 1) [.bool si, .slice ba bn bc, .slice ca cn' cc, .int .u64 (sq : Int), .bool sr, .bool sf] 31 := Blk.newAt (w.alloc (.cells #[.bool si, .slice ba bn bc, .slice ca cn' cc, .int .u64 (sq : Int), .bool sr, .bool sf] 31)) _ _ _ (by simp) _ rfl
  have qN : Below w.heap.size w ((w.alloc (.cells #[.bool si, .slice ba bn bc, .slice ca cn' cc, .int .u64 (sq : Int), .bool sr, .bool sf] 31)).alloc (.cells #[.bool si, .slice ba bn bc, .slice ca cn' cc, .int .u64 (sq : Int), .bool sr, .bool sf] 31)) := (below_alloc w (.cells #[.bool si, .slice ba bn bc, .slice ca cn' cc, .int .u64 (sq : Int), .bool sr, .bool sf] 31)).trans ((below_alloc (w.alloc (.cells #[.bool si, .slice ba bn bc, .slice ca cn' cc, .int .u64 (sq : Int), .bool sr, .bool sf] 31)) (.cells #[.bool si, .slice ba bn bc, .slice ca cn' cc, .int .u64 (sq : Int), .bool sr, .bool sf] 31)).mono (by simp))
  generalize (w.alloc (.cells #[.bool si, .slice ba bn bc, .slice ca cn' cc, .int .u64 (sq : Int), .bool sr, .bool sf] 31)).alloc (.cells #[.bool si, .slice ba bn bc, .slice ca cn' cc, .int .u64 (sq : Int), .bool sr, .bool sf] 31) = wN at *
  generalize w.heap.size + 1 = xN at *
  refine bodyPost_ret (v := .tuple #[.agg #[.bool si, .slice ba bn bc, .slice ca cn' cc, .int .u64 (sq : Int), .bool sr, .bool sf], .slice none 0 0, .int .i64 17]) (resCTT12 Tryz.results22 _ _ xN _ rfl (run_loadVar_row _ xN 31 31 _ (0, 0) _ bN Tryz.underlying31 rfl sizeRS) _ _ rfl rfl) rfl ?_
  exact ⟨rfl, qN⟩
set_option maxRecDepth 100000 in
set_option maxHeartbeats 2000000 in
theorem rOpen12Not (w : World) {A : Nat → Prop} {S : SeaS} {d : Du} (h : RS A w S d) {ak an ab at' : Option Addr} {nk ck nn cn nb cb nt ct : Nat} (zk : nk ≤ 1000000) (hn : ¬ nk = 32) :
    Calls Tryz.prog 24 #[rsV S d, .slice ak nk ck, .slice an nn cn, .slice ab nb cb, .slice at' nt ct] w fun e w' => e = .returned (.tuple #[rsV S d, .slice none 0 0, .int .i64 17]) ∧ Below w.heap.size w w' := by
  have h1 : ((nk : Int) != 32) = true := by simp; omega
  obtain ⟨ba, bn, bc, ca, cn', cc⟩ := d
  obtain ⟨si, sb, sk, sq, sr, sf⟩ := S
  show Calls Tryz.prog _ #[.agg #[.bool si, .slice ba bn bc, .slice ca cn' cc, .int .u64 (sq : Int), .bool sr, .bool sf], _, _, _, _] w _
  go_enter Tryz.func24, Tryz.ntmps24
  go_wp2_with fail
  have bN : Blk ((w.alloc (.cells #[.bool si, .slice ba bn bc, .slice ca cn' cc, .int .u64 (sq : Int), .bool sr, .bool sf] 31)).alloc (.cells #[.bool si, .slice ba bn bc, .slice ca cn' cc, .int .u64 (sq : Int), .bool sr, .bool sf] 31)) (w.heap.size + 1) [.bool si, .slice ba bn bc, .slice ca cn' cc, .int .u64 (sq : Int), .bool sr, .bool sf] 31 := Blk.newAt (w.alloc (.cells #[.bool si, .slice ba bn bc, .slice ca cn' cc, .int .u64 (sq : Int), .bool sr, .bool sf] 31)) _ _ _ (by simp) _ rfl
  have qN : Below w.heap.size w ((w.alloc (.cells #[.bool si, .slice ba bn bc, .slice ca cn' cc, .int .u64 (sq : Int), .bool sr, .bool sf] 31)).alloc (.cells #[.bool si, .slice ba bn bc, .slice ca cn' cc, .int .u64 (sq : Int), .bool sr, .bool sf] 31)) := (below_alloc w (.cells #[.bool si, .slice ba bn bc, .slice ca cn' cc, .int .u64 (sq : Int), .bool sr, .bool sf] 31)).trans ((below_alloc (w.alloc (.cells #[.bool si, .slice ba bn bc, .slice ca cn' cc, .int .u64 (sq : Int), .bool sr, .bool sf] 31)) (.cells #[.bool si, .slice ba bn bc, .slice ca cn' cc, .int .u64 (sq : Int), .bool sr, .bool sf] 31)).mono (by simp))
  generalize (w.alloc (.cells #[.bool si, .slice ba bn bc, .slice ca cn' cc, .int .u64 (sq : Int), .bool sr, .bool sf] 31)).alloc (.cells #[.bool si, .slice ba bn bc, .slice ca cn' cc, .int .u64 (sq : Int), .bool sr, .bool sf] 31) = wN at *
  generalize w.heap.size + 1 = xN at *
  refine bodyPost_ret (v := .tuple #[.agg #[.bool si, .slice ba bn bc, .slice ca cn' cc, .int .u64 (sq : Int), .bool sr, .bool sf], .slice none 0 0, .int .i64 17]) (resCTT12 Tryz.results24 _ _ xN _ rfl (run_loadVar_row _ xN 31 31 _ (0, 0) _ bN Tryz.underlying31 rfl sizeRS) _ _ rfl rfl) rfl ?_
  exact ⟨rfl, qN⟩
/-- What Open answers. -/
def OpensR (A : Nat → Prop) (S' : SeaS) (d : Du) (l : Option (List UInt8)) (w : World) (e : Ending) (w' : World) : Prop := ∃ a m c, e = .returned (.tuple #[rsV S' d, .slice a m c, .int .i64 (if l.isSome then 0 else 6)]) ∧ RS A w' S' d ∧ BA A w' a m c (l.getD []) ∧ Below w.heap.size w w'

set_option maxRecDepth 100000 in
set_option maxHeartbeats 1500000 in
theorem rOpen12 (w : World) {A : Nat → Prop} (hA : ∀ j, w.heap.size ≤ j → A j) {S : SeaS} {d : Du} (h : RS A w S d) {k n b s : List UInt8} {ak an ab as' : Option Addr} {ck cn nb cb ns cs' : Nat} (hk : Bs w ak 32 ck k) (hn : Bs w an 12 cn n) (hb : Bs w ab nb cb b) (hs : Bs w as' ns cs' s) (zb : nb ≤ 300) (zs : ns ≤ 300) (hz : S.book.length ≤ 1000) :
    Calls Tryz.prog 24 #[rsV S d, .slice ak 32 ck, .slice an 12 cn, .slice ab nb cb, .slice as' ns cs'] w (OpensR A (S.opened k n b s) d (S.opens k n b s) w) := by
  have HR : Hid (RS A w S d) := h
  have HK : Hid (Bs w ak 32 ck k) := hk
  have HN : Hid (Bs w an 12 cn n) := hn
  have HB : Hid (Bs w ab nb cb b) := hb
  have HC : Hid (Bs w as' ns cs' s) := hs
  have HAA : Hid (∀ j, w.heap.size ≤ j → A j) := hA
  have HZ : Hid (S.book.length ≤ 1000) := hz
  have HSL : Hid (s.length = ns) := hs.len
  have HKL : Hid ((keyF k).length = 240) := keyF_length hk.len
  have HKN : Hid (∀ u, Below w.heap.size w u → Calls Tryz.prog 45 #[rsV S d, .slice ak 32 ck, .slice an 12 cn, .slice ab nb cb, .slice as' ns cs'] u (Knows (Off A (w.heap.size + 1)) (S.known k n b s) u)) := fun u hu => rKnown12 u ((h.off (by omega)).grow hu) (hk.below hu (Nat.le_refl _)) (hn.below hu (Nat.le_refl _)) (hb.below hu (Nat.le_refl _)) (hs.below hu (Nat.le_refl _)) hz
  have HOI : Hid (S.ideal = true → S.opened k n b s = S ∧ S.opens k n b s = S.known k n b s) := fun hi => ⟨SeaS.opened_ideal hi k n b s, by unfold SeaS.opens; rw [if_pos hi]⟩
  have HOR : Hid (S.ideal = false → S.opened k n b s = { S with forged := S.forged || ((opensL k n b s).isSome && !(S.known k n b s).isSome) } ∧ S.opens k n b s = opensL k n b s) := fun hi => ⟨SeaS.opened_real hi k n b s, by unfold SeaS.opens; rw [if_neg (by rw [hi]; decide)]⟩
  clear h hk hn hb hs hA hz
  obtain ⟨kn, hkn⟩ : ∃ kn, kn = S.known k n b s := ⟨_, rfl⟩
  rw [← hkn] at HKN HOI HOR
  clear hkn
  obtain ⟨ba, bn, bc, ca, cn', cc⟩ := d
  obtain ⟨si, sb, sk, sq, sr, sf⟩ := S
  dsimp only at HZ HOI HOR
  have HKN' : Hid (∀ u, Below w.heap.size w u → Calls Tryz.prog 45 #[.agg #[.bool si, .slice ba bn bc, .slice ca cn' cc, .int .u64 (sq : Int), .bool sr, .bool sf], .slice ak 32 ck, .slice an 12 cn, .slice ab nb cb, .slice as' ns cs'] u (Knows (Off A (w.heap.size + 1)) kn u)) := HKN.out
  clear HKN
  show Calls Tryz.prog _ #[.agg #[.bool si, .slice ba bn bc, .slice ca cn' cc, .int .u64 (sq : Int), .bool sr, .bool sf], _, _, _, _] w _
  have q1 : Below w.heap.size w ((w.alloc (.cells #[.bool si, .slice ba bn bc, .slice ca cn' cc, .int .u64 (sq : Int), .bool sr, .bool sf] 31)).alloc (.cells #[.bool false, .slice none 0 0, .slice none 0 0, .int .u64 0, .bool false, .bool false] 31)) := (below_alloc w _).trans ((below_alloc _ _).mono (by simp))
  have B5 : Blk ((w.alloc (.cells #[.bool si, .slice ba bn bc, .slice ca cn' cc, .int .u64 (sq : Int), .bool sr, .bool sf] 31)).alloc (.cells #[.bool false, .slice none 0 0, .slice none 0 0, .int .u64 0, .bool false, .bool false] 31)) w.heap.size [.bool si, .slice ba bn bc, .slice ca cn' cc, .int .u64 (sq : Int), .bool sr, .bool sf] 31 := (Blk.new w _ _).old _
  have B10 : Blk ((w.alloc (.cells #[.bool si, .slice ba bn bc, .slice ca cn' cc, .int .u64 (sq : Int), .bool sr, .bool sf] 31)).alloc (.cells #[.bool false, .slice none 0 0, .slice none 0 0, .int .u64 0, .bool false, .bool false] 31)) (w.heap.size + 1) [.bool false, .slice none 0 0, .slice none 0 0, .int .u64 0, .bool false, .bool false] 31 := Blk.newAt (w.alloc (.cells #[.bool si, .slice ba bn bc, .slice ca cn' cc, .int .u64 (sq : Int), .bool sr, .bool sf] 31)) _ _ _ (by simp) _ rfl
  go_enter Tryz.func24, Tryz.ntmps24
  go_upto_region 3 with fail
  obtain ⟨x5, hx5⟩ : ∃ x, x = w.heap.size := ⟨_, rfl⟩
  obtain ⟨x10, hx10⟩ : ∃ x, x = w.heap.size + 1 := ⟨_, rfl⟩
  rw [← hx10] at B10 HKN' ⊢
  rw [← hx5] at B5 ⊢
  have hxx : x5 < x10 ∧ w.heap.size ≤ x5 := by omega
  clear hx5 hx10
  generalize (w.alloc (.cells #[.bool si, .slice ba bn bc, .slice ca cn' cc, .int .u64 (sq : Int), .bool sr, .bool sf] 31)).alloc (.cells #[.bool false, .slice none 0 0, .slice none 0 0, .int .u64 0, .bool false, .bool false] 31) = w1 at *
  go_wp2_with ((with_reducible refine at_ld 31 ?_); (refine ld 31 (.tmp 5) 6 sizeRS _ Tryz.underlying31 rfl x5 0 [.bool si, .slice ba bn bc, .slice ca cn' cc, .int .u64 (sq : Int), .bool sr, .bool sf] rfl B5.whole rfl ?_))
  refine (HKN'.out w1 q1).mono ?_
  rintro e w2 ⟨at', mt, ct, rfl, bt', hb2⟩
  have Q2 : Hid (Below w.heap.size w w2) := q1.trans (hb2.mono q1.size)
  have B52 : Hid (Blk w2 x5 [.bool si, .slice ba bn bc, .slice ca cn' cc, .int .u64 (sq : Int), .bool sr, .bool sf] 31) := B5.below hb2 B5.lt
  have B102 : Hid (Blk w2 x10 [.bool false, .slice none 0 0, .slice none 0 0, .int .u64 0, .bool false, .bool false] 31) := B10.below hb2 B10.lt
  have BT : Hid (BA (Off A x10) w2 at' mt ct (kn.getD [])) := bt'
  clear B5 B10 q1 hb2 bt' HKN'
  have c50 : w2.cell? ⟨x5, 0, none⟩ = some (.bool si) := B52.out.cell 0
  have l5 := B52.out.lt
  cases si with
  | true =>
    obtain ⟨ho1, ho2⟩ := HOI.out rfl
    have HO : Hid (SeaS.opened ⟨true, sb, sk, sq, sr, sf⟩ k n b s = ⟨true, sb, sk, sq, sr, sf⟩ ∧ SeaS.opens ⟨true, sb, sk, sq, sr, sf⟩ k n b s = kn) := ⟨ho1, ho2⟩
    clear ho1 ho2 HOI HOR
    have FIN : Hid (∀ w8 a m c, Blk w8 x10 [.bool true, .slice ba bn bc, .slice ca cn' cc, .int .u64 (sq : Int), .bool sr, .bool sf] 31 → Kp (fun j => j = x10) w2 w8 → BA (Off A x10) w2 a m c (kn.getD []) → ∀ e, e = .returned (.tuple #[.agg ([.bool true, .slice ba bn bc, .slice ca cn' cc, .int .u64 (sq : Int), .bool sr, .bool sf] : List Value).toArray, .slice a m c, .int .i64 (if kn.isSome then 0 else 6)]) → OpensR A (SeaS.opened ⟨true, sb, sk, sq, sr, sf⟩ k n b s) ⟨ba, bn, bc, ca, cn', cc⟩ (SeaS.opens ⟨true, sb, sk, sq, sr, sf⟩ k n b s) w e w8) := fun w8 a m c hB hk hba e he => by
      have Q8 : Below w.heap.size w w8 := Kp.new Q2.out hk fun j hj => by omega
      rw [HO.out.1, HO.out.2]
      exact ⟨a, m, c, he, HR.out.grow Q8, (hba.kp hk fun j hj e => hj.2 e).mono' fun j _ hj => hj.1, Q8⟩
    cases kn with
    | none =>
      go_wp2_with (first
        | ((with_reducible refine at_ld 31 ?_); (refine ld 31 (.tmp 5) 6 sizeRS _ Tryz.underlying31 rfl x5 0 [.bool true, .slice ba bn bc, .slice ca cn' cc, .int .u64 (sq : Int), .bool sr, .bool sf] rfl B52.out.whole rfl ?_))
        | ((with_reducible refine at_st 31 ?_); (refine st' 31 (.tmp 10) (.tmp 41) 6 sizeRS x10 0 [.bool true, .slice ba bn bc, .slice ca cn' cc, .int .u64 (sq : Int), .bool sr, .bool sf] rfl (rsLL_one _ _ _ _ _ _ _ _ _ _) (B102.out.there 0 6 (by simp)) rfl rfl ?_); intro w8 hw8
           have B8 : Hid (Blk w8 x10 [.bool true, .slice ba bn bc, .slice ca cn' cc, .int .u64 (sq : Int), .bool sr, .bool sf] 31) := by rw [hw8]; exact B102.out.setsW _ rfl
           have K8 : Hid (Kp (fun j => j = x10) w2 w8) := by rw [hw8]; exact Kp.sets w2 x10 _ 0
           clear hw8))
      refine bodyPost_ret (v := .tuple #[.agg ([.bool true, .slice ba bn bc, .slice ca cn' cc, .int .u64 (sq : Int), .bool sr, .bool sf] : List Value).toArray, .slice none 0 0, .int .i64 6]) (resCTT12 Tryz.results24 _ _ x10 _ rfl (run_loadVar_row _ x10 31 31 _ (0, 0) _ B8.out Tryz.underlying31 rfl sizeRS) _ _ rfl rfl) rfl ?_
      exact FIN.out w8 none 0 0 B8.out K8.out (BA.nil _ _) _ rfl
    | some tx =>
      go_wp2_with (first
        | ((with_reducible refine at_ld 31 ?_); (refine ld 31 (.tmp 5) 6 sizeRS _ Tryz.underlying31 rfl x5 0 [.bool true, .slice ba bn bc, .slice ca cn' cc, .int .u64 (sq : Int), .bool sr, .bool sf] rfl B52.out.whole rfl ?_))
        | ((with_reducible refine at_st 31 ?_); (refine st' 31 (.tmp 10) (.tmp 39) 6 sizeRS x10 0 [.bool true, .slice ba bn bc, .slice ca cn' cc, .int .u64 (sq : Int), .bool sr, .bool sf] rfl (rsLL_one _ _ _ _ _ _ _ _ _ _) (B102.out.there 0 6 (by simp)) rfl rfl ?_); intro w8 hw8
           have B8 : Hid (Blk w8 x10 [.bool true, .slice ba bn bc, .slice ca cn' cc, .int .u64 (sq : Int), .bool sr, .bool sf] 31) := by rw [hw8]; exact B102.out.setsW _ rfl
           have K8 : Hid (Kp (fun j => j = x10) w2 w8) := by rw [hw8]; exact Kp.sets w2 x10 _ 0
           clear hw8))
      refine bodyPost_ret (v := .tuple #[.agg ([.bool true, .slice ba bn bc, .slice ca cn' cc, .int .u64 (sq : Int), .bool sr, .bool sf] : List Value).toArray, .slice at' mt ct, .int .i64 0]) (resCTT12 Tryz.results24 _ _ x10 _ rfl (run_loadVar_row _ x10 31 31 _ (0, 0) _ B8.out Tryz.underlying31 rfl sizeRS) _ _ rfl rfl) rfl ?_
      exact FIN.out w8 at' mt ct B8.out K8.out BT.out _ rfl
  | false =>
    obtain ⟨ho1, ho2⟩ := HOR.out rfl
    have HO : Hid (SeaS.opened ⟨false, sb, sk, sq, sr, sf⟩ k n b s = ⟨false, sb, sk, sq, sr, sf || ((opensL k n b s).isSome && !kn.isSome)⟩ ∧ SeaS.opens ⟨false, sb, sk, sq, sr, sf⟩ k n b s = opensL k n b s) := ⟨ho1, ho2⟩
    clear ho1 ho2 HOI HOR BT
    have FIN : Hid (∀ O, O = opensL k n b s → ∀ w8 a m c, Blk w8 x10 [.bool false, .slice ba bn bc, .slice ca cn' cc, .int .u64 (sq : Int), .bool sr, .bool (sf || (O.isSome && !kn.isSome))] 31 → Below w.heap.size w w8 → BA A w8 a m c (O.getD []) → ∀ e, e = .returned (.tuple #[.agg #[.bool false, .slice ba bn bc, .slice ca cn' cc, .int .u64 (sq : Int), .bool sr, .bool (sf || (O.isSome && !kn.isSome))], .slice a m c, .int .i64 (if O.isSome then 0 else 6)]) → OpensR A (SeaS.opened ⟨false, sb, sk, sq, sr, sf⟩ k n b s) ⟨ba, bn, bc, ca, cn', cc⟩ (SeaS.opens ⟨false, sb, sk, sq, sr, sf⟩ k n b s) w e w8) := fun O hO w8 a m c hB hk hba e he => by
      rw [HO.out.1, HO.out.2, ← hO]
      exact ⟨a, m, c, he, ⟨(HR.out.grow hk).book, (HR.out.grow hk).kids⟩, hba, hk⟩
    have CNK := rNewK w2 (HK.out.below Q2.out (Nat.le_refl _))
    go_wp2_with fail
    refine CNK.mono ?_
    rintro e w3 ⟨k1, k2, k3, y1, y2, y3, rfl, hKR, hb3⟩
    have Q3 : Below w.heap.size w w3 := Q2.out.trans (hb3.mono Q2.out.size)
    clear CNK
    obtain ⟨O, hO⟩ : ∃ O, O = opensL k n b s := ⟨_, rfl⟩
    have CO : Hid (Calls Tryz.prog 46 #[kv k1 k2 k3 y1 y2 y3, .slice an 12 cn, .slice ab nb cb, .slice as' ns cs'] w3 fun e w' => ∃ a m c, e = .returned (.tuple #[.slice a m c, .int .i64 (if O.isSome then 0 else if ns < 16 then 3 else 6)]) ∧ Own w' w3.heap.size (.slice a m c) (O.getD []) ∧ Below w3.heap.size w3 w') := by
      by_cases h16 : ns < 16
      · have hON : O = none := by rw [hO]; unfold opensL; rw [if_neg (by rw [HSL.out]; omega)]
        refine (rOpenShort w3 rfl h16).mono ?_
        rintro e w' ⟨rfl, hb'⟩
        rw [hON]
        exact ⟨none, 0, 0, by rw [if_pos h16]; rfl, Own.nil _ _, hb'⟩
      · refine (rOpen w3 hKR HKL.out (HN.out.below Q3 (Nat.le_refl _)) (HB.out.below Q3 (Nat.le_refl _)) (HC.out.below Q3 (Nat.le_refl _)) (by omega) (by omega) (by omega)).mono ?_
        have hON : O = if decide (tagL (keyF k) n b (s.take (ns - 16)) = s.drop (ns - 16)) then some (strL (keyF k) n (s.take (ns - 16))) else none := by
          rw [hO]
          unfold opensL
          rw [if_pos (by rw [HSL.out]; omega), HSL.out]
          by_cases hc : tagL (keyF k) n b (s.take (ns - 16)) = s.drop (ns - 16)
          · rw [if_pos hc, decide_eq_true hc]
            rfl
          · rw [if_neg hc, decide_eq_false hc]
            rfl
        intro e w'
        unfold OpensC
        cases hd : decide (tagL (keyF k) n b (s.take (ns - 16)) = s.drop (ns - 16)) with
        | true =>
          rw [hd] at hON
          rw [hON]
          rintro ⟨a, m, c, rfl, ho, hb'⟩
          exact ⟨a, m, c, rfl, ho, hb'⟩
        | false =>
          rw [hd] at hON
          rw [hON]
          rintro ⟨rfl, hb'⟩
          exact ⟨none, 0, 0, by rw [if_neg h16]; rfl, Own.nil _ _, hb'⟩
    have HOO : Hid (O = opensL k n b s) := hO
    clear hO
    have B53 : Hid (Blk w3 x5 (rsLL false ba bn bc ca cn' cc sq sr sf) 31) := B52.out.below hb3 B52.out.lt
    have B103 : Hid (Blk w3 x10 [.bool false, .slice none 0 0, .slice none 0 0, .int .u64 0, .bool false, .bool false] 31) := B102.out.below hb3 B102.out.lt
    clear hKR hb3 c50 l5 B52 B102 Q2
    go_wp2_with fail
    refine CO.out.mono ?_
    rintro e w4 ⟨ax, mx, cx, rfl, ox, hb4⟩
    have Q4 : Hid (Below w.heap.size w w4) := Q3.trans (hb4.mono Q3.size)
    have B54 : Hid (Blk w4 x5 (rsLL false ba bn bc ca cn' cc sq sr sf) 31) := B53.out.below hb4 B53.out.lt
    have B104 : Hid (Blk w4 x10 [.bool false, .slice none 0 0, .slice none 0 0, .int .u64 0, .bool false, .bool false] 31) := B103.out.below hb4 B103.out.lt
    have hx103 : x10 < w3.heap.size := B103.out.lt
    have XX : Hid (BA (fun j => w3.heap.size ≤ j) w4 ax mx cx (O.getD [])) := ox.ba
    clear CO ox hb4 B53 B103
    cases O with
    | none =>
      have hcode : ((if (none : Option (List UInt8)).isSome then (0 : Int) else if ns < 16 then 3 else 6) != 0) = true := by
        by_cases h16 : ns < 16 <;> simp [h16]
      obtain ⟨cd, hcd⟩ : ∃ cd : Int, cd = (if (none : Option (List UInt8)).isSome then (0 : Int) else if ns < 16 then 3 else 6) := ⟨_, rfl⟩
      rw [← hcd] at hcode ⊢
      clear hcd XX
      go_wp2_with (first
        | ((with_reducible refine at_ld 31 ?_); (refine ld 31 (.tmp 5) 6 sizeRS _ Tryz.underlying31 rfl x5 0 (rsLL false ba bn bc ca cn' cc sq sr sf) rfl B54.out.whole rfl ?_))
        | ((with_reducible refine at_st 31 ?_); (refine st' 31 (.tmp 10) (.tmp 53) 6 sizeRS x10 0 (rsLL false ba bn bc ca cn' cc sq sr sf) rfl (rsLL_one _ _ _ _ _ _ _ _ _ _) (B104.out.there 0 6 (by simp)) rfl rfl ?_); intro w8 hw8
           have B8 : Hid (Blk w8 x10 (rsLL false ba bn bc ca cn' cc sq sr sf) 31) := by rw [hw8]; exact B104.out.setsW _ rfl
           have K8 : Hid (Kp (fun j => j = x10) w4 w8) := by rw [hw8]; exact Kp.sets w4 x10 _ 0
           clear hw8))
      refine bodyPost_ret (v := .tuple #[.agg ((rsLL false ba bn bc ca cn' cc sq sr sf) : List Value).toArray, .slice none 0 0, .int .i64 6]) (resCTT12 Tryz.results24 _ _ x10 _ rfl (run_loadVar_row _ x10 31 31 _ (0, 0) _ B8.out Tryz.underlying31 rfl sizeRS) _ _ rfl rfl) rfl ?_
      have hb9 : Blk w8 x10 [.bool false, .slice ba bn bc, .slice ca cn' cc, .int .u64 (sq : Int), .bool sr, .bool (sf || ((none : Option (List UInt8)).isSome && !kn.isSome))] 31 := by rw [show (sf || ((none : Option (List UInt8)).isSome && !kn.isSome)) = sf from by simp]; exact B8.out
      refine FIN.out none HOO.out w8 none 0 0 hb9 (Kp.new Q4.out K8.out fun j hj => by omega) (BA.nil _ _) _ ?_
      rw [show (sf || ((none : Option (List UInt8)).isSome && !kn.isSome)) = sf from by simp]
      rfl
    | some tx =>
      simp only [Option.isSome_some, if_true]
      have B54c : w4.cell? ⟨x5, 5, none⟩ = some (.bool sf) := B54.out.cell 5
      have l54 := B54.out.lt
      obtain ⟨kb, hkb⟩ : ∃ kb, kb = kn.isSome := ⟨_, rfl⟩
      have HKB : Hid (kb = kn.isSome) := hkb
      rw [← hkb]
      clear hkb
      have e0 : w4.cell? ⟨x5, 0, none⟩ = some (.bool false) := B54.out.cell 0
      have e1 : w4.cell? ⟨x5, 1, none⟩ = some (.slice ba bn bc) := B54.out.cell 1
      have e2 : w4.cell? ⟨x5, 2, none⟩ = some (.slice ca cn' cc) := B54.out.cell 2
      have e3 : w4.cell? ⟨x5, 3, none⟩ = some (.int .u64 (sq : Int)) := B54.out.cell 3
      have e4 : w4.cell? ⟨x5, 4, none⟩ = some (.bool sr) := B54.out.cell 4
      obtain ⟨fg, hfg⟩ : ∃ fg, fg = (sf || !kb) := ⟨_, rfl⟩
      have HFG : Hid (fg = (sf || !kb)) := hfg
      clear hfg
      cases sf with
      | true =>
        go_upto_region 13 with fail
        have q5 : Below w4.heap.size w4 (w4.alloc (.cells #[.bool false, .slice ba bn bc, .slice ca cn' cc, .int .u64 (sq : Int), .bool sr, .bool true] 31)) := below_alloc w4 _
        have B17 : Blk (w4.alloc (.cells #[.bool false, .slice ba bn bc, .slice ca cn' cc, .int .u64 (sq : Int), .bool sr, .bool true] 31)) w4.heap.size [.bool false, .slice ba bn bc, .slice ca cn' cc, .int .u64 (sq : Int), .bool sr, .bool true] 31 := Blk.new w4 _ _
        obtain ⟨x17, hx17⟩ : ∃ x, x = w4.heap.size := ⟨_, rfl⟩
        rw [← hx17] at B17 ⊢
        have hx1017 : x10 < x17 := by have := B104.out.lt; omega
        clear hx17
        generalize (w4.alloc (.cells #[.bool false, .slice ba bn bc, .slice ca cn' cc, .int .u64 (sq : Int), .bool sr, .bool true] 31)) = w5 at *
        have B105 := B104.out.below q5 B104.out.lt
        have Q5 : Hid (Below w.heap.size w w5) := Q4.out.trans (q5.mono Q4.out.size)
        have X5 : Hid (BA (fun j => w3.heap.size ≤ j) w5 ax mx cx tx) := XX.out.below' q5
        clear e0 e1 e2 e3 e4 B54c l54
        go_wp2_with (first
          | ((with_reducible refine at_ld 31 ?_); (refine ld 31 (.tmp 17) 6 sizeRS _ Tryz.underlying31 rfl x17 0 (rsLL false ba bn bc ca cn' cc sq sr true) rfl B17.whole rfl ?_))
          | ((with_reducible refine at_st 31 ?_); (refine st' 31 (.tmp 10) (.tmp 62) 6 sizeRS x10 0 (rsLL false ba bn bc ca cn' cc sq sr true) rfl (rsLL_one _ _ _ _ _ _ _ _ _ _) (B105.there 0 6 (by simp)) rfl rfl ?_); intro w8 hw8
             have B8 : Hid (Blk w8 x10 (rsLL false ba bn bc ca cn' cc sq sr true) 31) := by rw [hw8]; exact B105.setsW _ rfl
             have K8 : Hid (Kp (fun j => j = x10) w5 w8) := by rw [hw8]; exact Kp.sets w5 x10 _ 0
             clear hw8))
        refine bodyPost_ret (v := .tuple #[.agg (rsLL false ba bn bc ca cn' cc sq sr true).toArray, .slice ax mx cx, .int .i64 0]) (resCTT12 Tryz.results24 _ _ x10 _ rfl (run_loadVar_row _ x10 31 31 _ (0, 0) _ B8.out Tryz.underlying31 rfl sizeRS) _ _ rfl rfl) rfl ?_
        have hvv : (true || ((some tx).isSome && !kn.isSome)) = true := by rw [← HKB.out]; simp
        refine FIN.out (some tx) HOO.out w8 ax mx cx (by rw [hvv]; exact B8.out) (Kp.new Q5.out K8.out fun j hj => by omega) ((X5.out.kp K8.out fun j hj e => by omega).mono' fun j _ hj => HAA.out j (by have := Q3.size; omega)) _ ?_
        rw [hvv]
        rfl
      | false =>
        cases kb with
        | true =>
          go_upto_region 13 with fail
          have q5 : Below w4.heap.size w4 (w4.alloc (.cells #[.bool false, .slice ba bn bc, .slice ca cn' cc, .int .u64 (sq : Int), .bool sr, .bool false] 31)) := below_alloc w4 _
          have B17 : Blk (w4.alloc (.cells #[.bool false, .slice ba bn bc, .slice ca cn' cc, .int .u64 (sq : Int), .bool sr, .bool false] 31)) w4.heap.size [.bool false, .slice ba bn bc, .slice ca cn' cc, .int .u64 (sq : Int), .bool sr, .bool false] 31 := Blk.new w4 _ _
          obtain ⟨x17, hx17⟩ : ∃ x, x = w4.heap.size := ⟨_, rfl⟩
          rw [← hx17] at B17 ⊢
          have hx1017 : x10 < x17 := by have := B104.out.lt; omega
          clear hx17
          generalize (w4.alloc (.cells #[.bool false, .slice ba bn bc, .slice ca cn' cc, .int .u64 (sq : Int), .bool sr, .bool false] 31)) = w5 at *
          have B105 := B104.out.below q5 B104.out.lt
          have Q5 : Hid (Below w.heap.size w w5) := Q4.out.trans (q5.mono Q4.out.size)
          have X5 : Hid (BA (fun j => w3.heap.size ≤ j) w5 ax mx cx tx) := XX.out.below' q5
          clear e0 e1 e2 e3 e4 B54c l54
          go_wp2_with (first
            | ((with_reducible refine at_ld 31 ?_); (refine ld 31 (.tmp 17) 6 sizeRS _ Tryz.underlying31 rfl x17 0 (rsLL false ba bn bc ca cn' cc sq sr false) rfl B17.whole rfl ?_))
            | ((with_reducible refine at_st 31 ?_); (refine st' 31 (.tmp 10) (.tmp 62) 6 sizeRS x10 0 (rsLL false ba bn bc ca cn' cc sq sr false) rfl (rsLL_one _ _ _ _ _ _ _ _ _ _) (B105.there 0 6 (by simp)) rfl rfl ?_); intro w8 hw8
               have B8 : Hid (Blk w8 x10 (rsLL false ba bn bc ca cn' cc sq sr false) 31) := by rw [hw8]; exact B105.setsW _ rfl
               have K8 : Hid (Kp (fun j => j = x10) w5 w8) := by rw [hw8]; exact Kp.sets w5 x10 _ 0
               clear hw8))
          refine bodyPost_ret (v := .tuple #[.agg (rsLL false ba bn bc ca cn' cc sq sr false).toArray, .slice ax mx cx, .int .i64 0]) (resCTT12 Tryz.results24 _ _ x10 _ rfl (run_loadVar_row _ x10 31 31 _ (0, 0) _ B8.out Tryz.underlying31 rfl sizeRS) _ _ rfl rfl) rfl ?_
          have hvv : (false || ((some tx).isSome && !kn.isSome)) = false := by rw [← HKB.out]; simp
          refine FIN.out (some tx) HOO.out w8 ax mx cx (by rw [hvv]; exact B8.out) (Kp.new Q5.out K8.out fun j hj => by omega) ((X5.out.kp K8.out fun j hj e => by omega).mono' fun j _ hj => HAA.out j (by have := Q3.size; omega)) _ ?_
          rw [hvv]
          rfl
        | false =>
          go_upto_region 13 with fail
          have q5 : Below w4.heap.size w4 (w4.alloc (.cells #[.bool false, .slice ba bn bc, .slice ca cn' cc, .int .u64 (sq : Int), .bool sr, .bool true] 31)) := below_alloc w4 _
          have B17 : Blk (w4.alloc (.cells #[.bool false, .slice ba bn bc, .slice ca cn' cc, .int .u64 (sq : Int), .bool sr, .bool true] 31)) w4.heap.size [.bool false, .slice ba bn bc, .slice ca cn' cc, .int .u64 (sq : Int), .bool sr, .bool true] 31 := Blk.new w4 _ _
          obtain ⟨x17, hx17⟩ : ∃ x, x = w4.heap.size := ⟨_, rfl⟩
          rw [← hx17] at B17 ⊢
          have hx1017 : x10 < x17 := by have := B104.out.lt; omega
          clear hx17
          generalize (w4.alloc (.cells #[.bool false, .slice ba bn bc, .slice ca cn' cc, .int .u64 (sq : Int), .bool sr, .bool true] 31)) = w5 at *
          have B105 := B104.out.below q5 B104.out.lt
          have Q5 : Hid (Below w.heap.size w w5) := Q4.out.trans (q5.mono Q4.out.size)
          have X5 : Hid (BA (fun j => w3.heap.size ≤ j) w5 ax mx cx tx) := XX.out.below' q5
          clear e0 e1 e2 e3 e4 B54c l54
          go_wp2_with (first
            | ((with_reducible refine at_ld 31 ?_); (refine ld 31 (.tmp 17) 6 sizeRS _ Tryz.underlying31 rfl x17 0 (rsLL false ba bn bc ca cn' cc sq sr true) rfl B17.whole rfl ?_))
            | ((with_reducible refine at_st 31 ?_); (refine st' 31 (.tmp 10) (.tmp 62) 6 sizeRS x10 0 (rsLL false ba bn bc ca cn' cc sq sr true) rfl (rsLL_one _ _ _ _ _ _ _ _ _ _) (B105.there 0 6 (by simp)) rfl rfl ?_); intro w8 hw8
               have B8 : Hid (Blk w8 x10 (rsLL false ba bn bc ca cn' cc sq sr true) 31) := by rw [hw8]; exact B105.setsW _ rfl
               have K8 : Hid (Kp (fun j => j = x10) w5 w8) := by rw [hw8]; exact Kp.sets w5 x10 _ 0
               clear hw8))
          refine bodyPost_ret (v := .tuple #[.agg (rsLL false ba bn bc ca cn' cc sq sr true).toArray, .slice ax mx cx, .int .i64 0]) (resCTT12 Tryz.results24 _ _ x10 _ rfl (run_loadVar_row _ x10 31 31 _ (0, 0) _ B8.out Tryz.underlying31 rfl sizeRS) _ _ rfl rfl) rfl ?_
          have hvv : (false || ((some tx).isSome && !kn.isSome)) = true := by rw [← HKB.out]; simp
          refine FIN.out (some tx) HOO.out w8 ax mx cx (by rw [hvv]; exact B8.out) (Kp.new Q5.out K8.out fun j hj => by omega) ((X5.out.kp K8.out fun j hj e => by omega).mono' fun j _ hj => HAA.out j (by have := Q3.size; omega)) _ ?_
          rw [hvv]
          rfl

end Go.Proofs.YtjpejheipkfanaaGreatDoor
