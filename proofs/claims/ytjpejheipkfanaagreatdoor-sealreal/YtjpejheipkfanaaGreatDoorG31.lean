/-
  4 texts in one. No statement of the seat is proved here.
-/
import Derived.Test.YtjpejheipkfanaaGreatDoorG30
import Derived.Deep.Matrix
/-
  The contract of layer 12's statements' 'do': any other act. Conditions: bytes of at most 60, what was sealed last of at most 100, at most 900 things in all.
-/
namespace Go.Proofs.YtjpejheipkfanaaGreatDoor
open Go.RowKit
set_option linter.unusedVariables false

set_option maxRecDepth 100000 in
set_option maxHeartbeats 4000000 in
theorem lDo4F (w : World) (hK : Kon w) {U A : Nat → Prop} {r : Nat} {S : SeaS} {M : SeaM} {d : Du} (h : DoI U A w r S M d) {ky no tu : Nat} {bs tx ll : List UInt8} {kd : Int} (j0 : ¬ kd = 0) (j1 : ¬ kd = 1) (j2 : ¬ kd = 2) (j3 : ¬ kd = 3) (hky : ky ≤ 255) (hno : no ≤ 255) (htu : tu ≤ 65535) {p p' al : Option Addr} {m q m' q' ml cl : Nat} (hb : BA A w p m q bs) (ht : BA A w p' m' q' tx) (hl : BA A w al ml cl ll) (zb : m ≤ 60) (zt : m' ≤ 60) (zl : ml ≤ 100) :
    Calls Tryz.prog 8 #[.pointer (some ⟨r, 0, none⟩), rsV S d, .agg #[.int .i64 kd, .int .u8 (ky : Int), .int .u8 (no : Int), .slice p m q, .slice p' m' q', .int .u16 (tu : Int), .bool false], .slice al ml cl] w (DoneS U A r M S w) := by
  have HI : Hid (DoI U A w r S M d) := h
  have HKK : Hid (Kon w) := hK
  have HB : Hid (BA (Off A (w.heap.size + 2)) w p m q bs) := hb.off (by omega)
  have HT : Hid (BA (Off A (w.heap.size + 2)) w p' m' q' tx) := ht.off (by omega)
  have HL : Hid (BA (Off A (w.heap.size + 2)) w al ml cl ll) := hl.off (by omega)
  have HR : Hid (RS (Off A (w.heap.size + 2)) w S d) := h.rs.off (by omega)
  have HAA : Hid (∀ j, w.heap.size ≤ j → A j) := h.new
  have HU : Hid (∀ j, U j → j < w.heap.size) := h.se.lt
  clear h hb ht hl hK
  have q1 : Below w.heap.size w (((w.alloc (.cells #[.bool S.ideal, .slice d.ba d.bn d.bc, .slice d.ca d.cn d.cc, .int .u64 (S.count : Int), .bool S.reused, .bool S.forged] 31)).alloc (.cells #[.int .i64 kd, .int .u8 (ky : Int), .int .u8 (no : Int), .slice p m q, .slice p' m' q', .int .u16 (tu : Int), .bool false] 37)).alloc (.cells #[.bool false, .slice none 0 0, .slice none 0 0, .int .u64 0, .bool false, .bool false] 31)) := (below_alloc w (.cells #[.bool S.ideal, .slice d.ba d.bn d.bc, .slice d.ca d.cn d.cc, .int .u64 (S.count : Int), .bool S.reused, .bool S.forged] 31)).trans (((below_alloc (w.alloc (.cells #[.bool S.ideal, .slice d.ba d.bn d.bc, .slice d.ca d.cn d.cc, .int .u64 (S.count : Int), .bool S.reused, .bool S.forged] 31)) (.cells #[.int .i64 kd, .int .u8 (ky : Int), .int .u8 (no : Int), .slice p m q, .slice p' m' q', .int .u16 (tu : Int), .bool false] 37)).trans ((below_alloc ((w.alloc (.cells #[.bool S.ideal, .slice d.ba d.bn d.bc, .slice d.ca d.cn d.cc, .int .u64 (S.count : Int), .bool S.reused, .bool S.forged] 31)).alloc (.cells #[.int .i64 kd, .int .u8 (ky : Int), .int .u8 (no : Int), .slice p m q, .slice p' m' q', .int .u16 (tu : Int), .bool false] 37)) (.cells #[.bool false, .slice none 0 0, .slice none 0 0, .int .u64 0, .bool false, .bool false] 31)).mono (by simp))).mono (by simp))
  have B5 : Blk (((w.alloc (.cells #[.bool S.ideal, .slice d.ba d.bn d.bc, .slice d.ca d.cn d.cc, .int .u64 (S.count : Int), .bool S.reused, .bool S.forged] 31)).alloc (.cells #[.int .i64 kd, .int .u8 (ky : Int), .int .u8 (no : Int), .slice p m q, .slice p' m' q', .int .u16 (tu : Int), .bool false] 37)).alloc (.cells #[.bool false, .slice none 0 0, .slice none 0 0, .int .u64 0, .bool false, .bool false] 31)) w.heap.size (rsC S d) 31 := ((Blk.new w #[.bool S.ideal, .slice d.ba d.bn d.bc, .slice d.ca d.cn d.cc, .int .u64 (S.count : Int), .bool S.reused, .bool S.forged] 31).old (.cells #[.int .i64 kd, .int .u8 (ky : Int), .int .u8 (no : Int), .slice p m q, .slice p' m' q', .int .u16 (tu : Int), .bool false] 37)).old (.cells #[.bool false, .slice none 0 0, .slice none 0 0, .int .u64 0, .bool false, .bool false] 31)
  have B6 : Blk (((w.alloc (.cells #[.bool S.ideal, .slice d.ba d.bn d.bc, .slice d.ca d.cn d.cc, .int .u64 (S.count : Int), .bool S.reused, .bool S.forged] 31)).alloc (.cells #[.int .i64 kd, .int .u8 (ky : Int), .int .u8 (no : Int), .slice p m q, .slice p' m' q', .int .u16 (tu : Int), .bool false] 37)).alloc (.cells #[.bool false, .slice none 0 0, .slice none 0 0, .int .u64 0, .bool false, .bool false] 31)) (w.heap.size + 1) [.int .i64 kd, .int .u8 (ky : Int), .int .u8 (no : Int), .slice p m q, .slice p' m' q', .int .u16 (tu : Int), .bool false] 37 := (Blk.newAt (w.alloc (.cells #[.bool S.ideal, .slice d.ba d.bn d.bc, .slice d.ca d.cn d.cc, .int .u64 (S.count : Int), .bool S.reused, .bool S.forged] 31)) #[.int .i64 kd, .int .u8 (ky : Int), .int .u8 (no : Int), .slice p m q, .slice p' m' q', .int .u16 (tu : Int), .bool false] 37 _ (by simp) _ rfl).old (.cells #[.bool false, .slice none 0 0, .slice none 0 0, .int .u64 0, .bool false, .bool false] 31)
  have B8 : Blk (((w.alloc (.cells #[.bool S.ideal, .slice d.ba d.bn d.bc, .slice d.ca d.cn d.cc, .int .u64 (S.count : Int), .bool S.reused, .bool S.forged] 31)).alloc (.cells #[.int .i64 kd, .int .u8 (ky : Int), .int .u8 (no : Int), .slice p m q, .slice p' m' q', .int .u16 (tu : Int), .bool false] 37)).alloc (.cells #[.bool false, .slice none 0 0, .slice none 0 0, .int .u64 0, .bool false, .bool false] 31)) (w.heap.size + 2) [.bool false, .slice none 0 0, .slice none 0 0, .int .u64 0, .bool false, .bool false] 31 := Blk.newAt ((w.alloc (.cells #[.bool S.ideal, .slice d.ba d.bn d.bc, .slice d.ca d.cn d.cc, .int .u64 (S.count : Int), .bool S.reused, .bool S.forged] 31)).alloc (.cells #[.int .i64 kd, .int .u8 (ky : Int), .int .u8 (no : Int), .slice p m q, .slice p' m' q', .int .u16 (tu : Int), .bool false] 37)) _ _ _ (by simp) _ rfl
  obtain ⟨n3, hn3⟩ : ∃ n3, n3 = no % 3 := ⟨_, rfl⟩
  have i1 : (no : Int).tmod 3 = (n3 : Int) := by rw [Int.tmod_eq_emod_of_nonneg (by omega)]; omega
  have i2 : (no : Int) % 3 = (n3 : Int) := by omega
  have i3 : n3 ≤ 2 := by omega
  clear hn3
  show Calls Tryz.prog _ #[_, .agg #[.bool S.ideal, .slice d.ba d.bn d.bc, .slice d.ca d.cn d.cc, .int .u64 (S.count : Int), .bool S.reused, .bool S.forged], .agg #[.int .i64 kd, .int .u8 (ky : Int), .int .u8 (no : Int), .slice p m q, .slice p' m' q', .int .u16 (tu : Int), .bool false], _] w _
  go_enter Tryz.func8, Tryz.ntmps8
  go_upto_region 1 with fail
  obtain ⟨x5, hx5⟩ : ∃ x, x = w.heap.size := ⟨_, rfl⟩
  obtain ⟨x6, hx6⟩ : ∃ x, x = w.heap.size + 1 := ⟨_, rfl⟩
  obtain ⟨x8, hx8⟩ : ∃ x, x = w.heap.size + 2 := ⟨_, rfl⟩
  rw [← hx8] at B8 HB HT HL HR ⊢
  rw [← hx6] at B6 ⊢
  rw [← hx5] at B5 ⊢
  have hxx : w.heap.size ≤ x5 ∧ x5 < x6 ∧ x6 < x8 := by omega
  clear hx5 hx6 hx8
  generalize ((w.alloc (.cells #[.bool S.ideal, .slice d.ba d.bn d.bc, .slice d.ca d.cn d.cc, .int .u64 (S.count : Int), .bool S.reused, .bool S.forged] 31)).alloc (.cells #[.int .i64 kd, .int .u8 (ky : Int), .int .u8 (no : Int), .slice p m q, .slice p' m' q', .int .u16 (tu : Int), .bool false] 37)).alloc (.cells #[.bool false, .slice none 0 0, .slice none 0 0, .int .u64 0, .bool false, .bool false] 31) = w1 at *
  have HX : Hid (x8 < w1.heap.size) := B8.lt
  have c61 : w1.cell? ⟨x6, 1, none⟩ = some (.int .u8 (ky : Int)) := B6.cell 1
  have l61 := B6.lt
  go_wp2_with fail
  refine (lKey12 w1 ky hky).mono ?_
  rintro e w2 ⟨g2, rfl, hg2, o2, hb2⟩
  have B62 : Hid (Blk w2 x6 [.int .i64 kd, .int .u8 (ky : Int), .int .u8 (no : Int), .slice p m q, .slice p' m' q', .int .u16 (tu : Int), .bool false] 37) := B6.below hb2 B6.lt
  have B52 : Hid (Blk w2 x5 (rsC S d) 31) := B5.below hb2 B5.lt
  have B82 : Hid (Blk w2 x8 [.bool false, .slice none 0 0, .slice none 0 0, .int .u64 0, .bool false, .bool false] 31) := B8.below hb2 B8.lt
  have Q2 : Hid (Below w.heap.size w w2) := q1.trans (hb2.mono q1.size)
  have K0 : BA (Off A x8) w2 (some ⟨g2, 0, none⟩) 32 32 (keyB ky) := o2.ba.mono' fun j _ hj => ⟨HAA.out j (by have := q1.size; omega), by have := HX.out; omega⟩
  have K2 : Hid (BA (Off A x8) w2 (some ⟨g2, 0, none⟩) 32 32 (keyB ky)) := K0
  clear B5 B6 B8 c61 l61 q1 hb2 o2 K0 hg2
  have c62 : w2.cell? ⟨x6, 2, none⟩ = some (.int .u8 (no : Int)) := B62.out.cell 2
  have c66 : w2.cell? ⟨x6, 6, none⟩ = some (.bool false) := B62.out.cell 6
  have l62 := B62.out.lt
  go_wp2_with fail
  refine (oSNonce w2 n3 7 (by omega) (by omega)).mono ?_
  rintro e w3 ⟨a3, m3, c3, rfl, o3, hb3⟩
  have hm3 : m3 = 12 := by rw [← o3.toBs.len, nonL_length]
  subst hm3
  have B63 := B62.out.below hb3 B62.out.lt
  have c63 : w3.cell? ⟨x6, 2, none⟩ = some (.int .u8 (no : Int)) := B63.cell 2
  have l63 := B63.lt
  clear c62 c66 l62 B63
  go_wp2_with fail
  refine (rNonce12 w3 n3 7 (by omega) (by omega)).mono ?_
  rintro e w4 ⟨a4, m4, c4, rfl, o4, hb4⟩
  have CS : Calls Tryz.prog 20 #[.slice a3 12 c3, .slice a4 m4 c4] w4 fun e w' => e = .returned (.bool true) ∧ Below w4.heap.size w4 w' := by
    have := sameD w4 (o3.toBs.below hb4 (Nat.le_refl _)) o4.toBs
    rw [decide_eq_true rfl] at this
    exact this
  clear c63 l63
  go_wp2_with fail
  refine CS.mono ?_
  rintro _ w5 ⟨rfl, hb5⟩
  have h35 : Below w3.heap.size w3 w5 := hb4.trans (hb5.mono hb4.size)
  have h25 : Below w2.heap.size w2 w5 := hb3.trans (h35.mono hb3.size)
  have Q5 : Hid (Below w.heap.size w w5) := Q2.out.trans (h25.mono Q2.out.size)
  have B55 : Hid (Blk w5 x5 (rsC S d) 31) := B52.out.below h25 B52.out.lt
  have B65 : Hid (Blk w5 x6 [.int .i64 kd, .int .u8 (ky : Int), .int .u8 (no : Int), .slice p m q, .slice p' m' q', .int .u16 (tu : Int), .bool false] 37) := B62.out.below h25 B62.out.lt
  have B85 : Hid (Blk w5 x8 [.bool false, .slice none 0 0, .slice none 0 0, .int .u64 0, .bool false, .bool false] 31) := B82.out.below h25 B82.out.lt
  have K5 : Hid (BA (Off A x8) w5 (some ⟨g2, 0, none⟩) 32 32 (keyB ky)) := K2.out.below' h25
  have hx82 := B82.out.lt
  have N5 : Hid (BA (Off A x8) w5 a3 12 c3 (nonL n3 7)) := (o3.ba.below' h35).mono' fun j _ hj => ⟨HAA.out j (by have := Q2.out.size; omega), by omega⟩
  have R5 : Hid (RS (Off A x8) w5 S d) := HR.out.grow Q5.out
  have Pb : Hid (BA (Off A x8) w5 p m q bs) := HB.out.below' Q5.out
  have Pt : Hid (BA (Off A x8) w5 p' m' q' tx) := HT.out.below' Q5.out
  have Pl : Hid (BA (Off A x8) w5 al ml cl ll) := HL.out.below' Q5.out
  have SE5 : Hid (Se U w5 r S M) := HI.out.se.grow Q5.out
  have A5 : Hid (∀ j, w5.heap.size ≤ j → Off A x8 j) := fun j hj => ⟨HAA.out j (by have := Q5.out.size; omega), by have := B85.out.lt; omega⟩
  have KL : Hid ((keyB ky).length = 32) := K5.out.1.len
  have NU5 : Hid (∀ j, Off A x8 j → ¬ U j) := fun j hj => HI.out.off j hj.1
  have OK5 : Hid (S.Ok) := HI.out.ok
  have SZ5 : Hid (S.count + S.book.length + S.kids.length ≤ 900) := HI.out.nb
  have KN5 : Hid (Kon w5) := HKK.out.below Q5.out HKK.out.lt
  clear hb3 hb4 hb5 h35 h25 o3 o4 CS B52 B62 B82 K2 Q2 HR HB HT HL HKK HX hx82
  generalize keyB ky = KY at *
  generalize nonL n3 7 = NN at *
  have c60 : w5.cell? ⟨x6, 0, none⟩ = some (.int .i64 kd) := B65.out.cell 0
  have c63 : w5.cell? ⟨x6, 3, none⟩ = some (.slice p m q) := B65.out.cell 3
  have c64 : w5.cell? ⟨x6, 4, none⟩ = some (.slice p' m' q') := B65.out.cell 4
  have c65 : w5.cell? ⟨x6, 5, none⟩ = some (.int .u16 (tu : Int)) := B65.out.cell 5
  have l65 := B65.out.lt
  go_wp2_with (first
    | ((with_reducible refine at_ld 31 ?_); (refine ld 31 (.tmp 5) 6 sizeRS _ Tryz.underlying31 rfl x5 0 (rsC S d) rfl B55.out.whole rfl ?_))
    | ((with_reducible refine at_st 31 ?_); (refine st' 31 (.tmp 8) (.tmp 153) 6 sizeRS x8 0 (rsC S d) rfl (rsC_one S d) (B85.out.there 0 6 (by simp)) rfl rfl ?_); intro w9 hw9; have B9 : Hid (Blk w9 x8 (rsC S d) 31) := (by rw [hw9]; exact B85.out.setsW _ rfl); have K9 : Hid (Kp (fun j => j = x8) w5 w9) := (by rw [hw9]; exact Kp.sets _ x8 _ 0); clear hw9))
  refine bodyPost_ret (v := .tuple #[rsV S d, .slice al ml cl, .bool true]) (resCTT12 Tryz.results8 _ _ x8 _ rfl (run_loadVar_row _ x8 31 31 _ (0, 0) _ B9.out Tryz.underlying31 rfl sizeRS) _ _ rfl rfl) rfl ?_
  have N9 : ∀ j, Off A x8 j → ¬ j = x8 := fun j hj => hj.2
  have RF : RS A w9 S d := (R5.out.keep K9.out.size fun j hj ha => K9.out.block j hj (N9 j ha)).mono fun j _ hj => hj.1
  have YF : BA A w9 al ml cl ll := (Pl.out.kp K9.out N9).mono' fun j _ hj => hj.1
  have SF : Se U w9 r S M := SE5.out.kp K9.out fun j hj e => by have := HU.out j hj; omega
  have KF : Kp U w w9 := Kp.later (Kp.of_below Q5.out) K9.out fun j hj => by omega
  exact ⟨S, d, al, ml, cl, ll, rfl, Nx.refl OK5.out, SF, RF, YF, zl, KF⟩

set_option maxRecDepth 100000 in
set_option maxHeartbeats 4000000 in
theorem lDo4T (w : World) (hK : Kon w) {U A : Nat → Prop} {r : Nat} {S : SeaS} {M : SeaM} {d : Du} (h : DoI U A w r S M d) {ky no tu : Nat} {bs tx ll : List UInt8} {kd : Int} (j0 : ¬ kd = 0) (j1 : ¬ kd = 1) (j2 : ¬ kd = 2) (j3 : ¬ kd = 3) (hky : ky ≤ 255) (hno : no ≤ 255) (htu : tu ≤ 65535) {p p' al : Option Addr} {m q m' q' ml cl : Nat} (hb : BA A w p m q bs) (ht : BA A w p' m' q' tx) (hl : BA A w al ml cl ll) (zb : m ≤ 60) (zt : m' ≤ 60) (zl : ml ≤ 100) :
    Calls Tryz.prog 8 #[.pointer (some ⟨r, 0, none⟩), rsV S d, .agg #[.int .i64 kd, .int .u8 (ky : Int), .int .u8 (no : Int), .slice p m q, .slice p' m' q', .int .u16 (tu : Int), .bool true], .slice al ml cl] w (DoneS U A r M S w) := by
  have HI : Hid (DoI U A w r S M d) := h
  have HKK : Hid (Kon w) := hK
  have HB : Hid (BA (Off A (w.heap.size + 2)) w p m q bs) := hb.off (by omega)
  have HT : Hid (BA (Off A (w.heap.size + 2)) w p' m' q' tx) := ht.off (by omega)
  have HL : Hid (BA (Off A (w.heap.size + 2)) w al ml cl ll) := hl.off (by omega)
  have HR : Hid (RS (Off A (w.heap.size + 2)) w S d) := h.rs.off (by omega)
  have HAA : Hid (∀ j, w.heap.size ≤ j → A j) := h.new
  have HU : Hid (∀ j, U j → j < w.heap.size) := h.se.lt
  clear h hb ht hl hK
  have q1 : Below w.heap.size w (((w.alloc (.cells #[.bool S.ideal, .slice d.ba d.bn d.bc, .slice d.ca d.cn d.cc, .int .u64 (S.count : Int), .bool S.reused, .bool S.forged] 31)).alloc (.cells #[.int .i64 kd, .int .u8 (ky : Int), .int .u8 (no : Int), .slice p m q, .slice p' m' q', .int .u16 (tu : Int), .bool true] 37)).alloc (.cells #[.bool false, .slice none 0 0, .slice none 0 0, .int .u64 0, .bool false, .bool false] 31)) := (below_alloc w (.cells #[.bool S.ideal, .slice d.ba d.bn d.bc, .slice d.ca d.cn d.cc, .int .u64 (S.count : Int), .bool S.reused, .bool S.forged] 31)).trans (((below_alloc (w.alloc (.cells #[.bool S.ideal, .slice d.ba d.bn d.bc, .slice d.ca d.cn d.cc, .int .u64 (S.count : Int), .bool S.reused, .bool S.forged] 31)) (.cells #[.int .i64 kd, .int .u8 (ky : Int), .int .u8 (no : Int), .slice p m q, .slice p' m' q', .int .u16 (tu : Int), .bool true] 37)).trans ((below_alloc ((w.alloc (.cells #[.bool S.ideal, .slice d.ba d.bn d.bc, .slice d.ca d.cn d.cc, .int .u64 (S.count : Int), .bool S.reused, .bool S.forged] 31)).alloc (.cells #[.int .i64 kd, .int .u8 (ky : Int), .int .u8 (no : Int), .slice p m q, .slice p' m' q', .int .u16 (tu : Int), .bool true] 37)) (.cells #[.bool false, .slice none 0 0, .slice none 0 0, .int .u64 0, .bool false, .bool false] 31)).mono (by simp))).mono (by simp))
  have B5 : Blk (((w.alloc (.cells #[.bool S.ideal, .slice d.ba d.bn d.bc, .slice d.ca d.cn d.cc, .int .u64 (S.count : Int), .bool S.reused, .bool S.forged] 31)).alloc (.cells #[.int .i64 kd, .int .u8 (ky : Int), .int .u8 (no : Int), .slice p m q, .slice p' m' q', .int .u16 (tu : Int), .bool true] 37)).alloc (.cells #[.bool false, .slice none 0 0, .slice none 0 0, .int .u64 0, .bool false, .bool false] 31)) w.heap.size (rsC S d) 31 := ((Blk.new w #[.bool S.ideal, .slice d.ba d.bn d.bc, .slice d.ca d.cn d.cc, .int .u64 (S.count : Int), .bool S.reused, .bool S.forged] 31).old (.cells #[.int .i64 kd, .int .u8 (ky : Int), .int .u8 (no : Int), .slice p m q, .slice p' m' q', .int .u16 (tu : Int), .bool true] 37)).old (.cells #[.bool false, .slice none 0 0, .slice none 0 0, .int .u64 0, .bool false, .bool false] 31)
  have B6 : Blk (((w.alloc (.cells #[.bool S.ideal, .slice d.ba d.bn d.bc, .slice d.ca d.cn d.cc, .int .u64 (S.count : Int), .bool S.reused, .bool S.forged] 31)).alloc (.cells #[.int .i64 kd, .int .u8 (ky : Int), .int .u8 (no : Int), .slice p m q, .slice p' m' q', .int .u16 (tu : Int), .bool true] 37)).alloc (.cells #[.bool false, .slice none 0 0, .slice none 0 0, .int .u64 0, .bool false, .bool false] 31)) (w.heap.size + 1) [.int .i64 kd, .int .u8 (ky : Int), .int .u8 (no : Int), .slice p m q, .slice p' m' q', .int .u16 (tu : Int), .bool true] 37 := (Blk.newAt (w.alloc (.cells #[.bool S.ideal, .slice d.ba d.bn d.bc, .slice d.ca d.cn d.cc, .int .u64 (S.count : Int), .bool S.reused, .bool S.forged] 31)) #[.int .i64 kd, .int .u8 (ky : Int), .int .u8 (no : Int), .slice p m q, .slice p' m' q', .int .u16 (tu : Int), .bool true] 37 _ (by simp) _ rfl).old (.cells #[.bool false, .slice none 0 0, .slice none 0 0, .int .u64 0, .bool false, .bool false] 31)
  have B8 : Blk (((w.alloc (.cells #[.bool S.ideal, .slice d.ba d.bn d.bc, .slice d.ca d.cn d.cc, .int .u64 (S.count : Int), .bool S.reused, .bool S.forged] 31)).alloc (.cells #[.int .i64 kd, .int .u8 (ky : Int), .int .u8 (no : Int), .slice p m q, .slice p' m' q', .int .u16 (tu : Int), .bool true] 37)).alloc (.cells #[.bool false, .slice none 0 0, .slice none 0 0, .int .u64 0, .bool false, .bool false] 31)) (w.heap.size + 2) [.bool false, .slice none 0 0, .slice none 0 0, .int .u64 0, .bool false, .bool false] 31 := Blk.newAt ((w.alloc (.cells #[.bool S.ideal, .slice d.ba d.bn d.bc, .slice d.ca d.cn d.cc, .int .u64 (S.count : Int), .bool S.reused, .bool S.forged] 31)).alloc (.cells #[.int .i64 kd, .int .u8 (ky : Int), .int .u8 (no : Int), .slice p m q, .slice p' m' q', .int .u16 (tu : Int), .bool true] 37)) _ _ _ (by simp) _ rfl
  obtain ⟨n3, hn3⟩ : ∃ n3, n3 = no % 3 := ⟨_, rfl⟩
  have i1 : (no : Int).tmod 3 = (n3 : Int) := by rw [Int.tmod_eq_emod_of_nonneg (by omega)]; omega
  have i2 : (no : Int) % 3 = (n3 : Int) := by omega
  have i3 : n3 ≤ 2 := by omega
  clear hn3
  show Calls Tryz.prog _ #[_, .agg #[.bool S.ideal, .slice d.ba d.bn d.bc, .slice d.ca d.cn d.cc, .int .u64 (S.count : Int), .bool S.reused, .bool S.forged], .agg #[.int .i64 kd, .int .u8 (ky : Int), .int .u8 (no : Int), .slice p m q, .slice p' m' q', .int .u16 (tu : Int), .bool true], _] w _
  go_enter Tryz.func8, Tryz.ntmps8
  go_upto_region 1 with fail
  obtain ⟨x5, hx5⟩ : ∃ x, x = w.heap.size := ⟨_, rfl⟩
  obtain ⟨x6, hx6⟩ : ∃ x, x = w.heap.size + 1 := ⟨_, rfl⟩
  obtain ⟨x8, hx8⟩ : ∃ x, x = w.heap.size + 2 := ⟨_, rfl⟩
  rw [← hx8] at B8 HB HT HL HR ⊢
  rw [← hx6] at B6 ⊢
  rw [← hx5] at B5 ⊢
  have hxx : w.heap.size ≤ x5 ∧ x5 < x6 ∧ x6 < x8 := by omega
  clear hx5 hx6 hx8
  generalize ((w.alloc (.cells #[.bool S.ideal, .slice d.ba d.bn d.bc, .slice d.ca d.cn d.cc, .int .u64 (S.count : Int), .bool S.reused, .bool S.forged] 31)).alloc (.cells #[.int .i64 kd, .int .u8 (ky : Int), .int .u8 (no : Int), .slice p m q, .slice p' m' q', .int .u16 (tu : Int), .bool true] 37)).alloc (.cells #[.bool false, .slice none 0 0, .slice none 0 0, .int .u64 0, .bool false, .bool false] 31) = w1 at *
  have HX : Hid (x8 < w1.heap.size) := B8.lt
  have c61 : w1.cell? ⟨x6, 1, none⟩ = some (.int .u8 (ky : Int)) := B6.cell 1
  have l61 := B6.lt
  go_wp2_with fail
  refine (lKey12 w1 ky hky).mono ?_
  rintro e w2 ⟨g2, rfl, hg2, o2, hb2⟩
  have B62 : Hid (Blk w2 x6 [.int .i64 kd, .int .u8 (ky : Int), .int .u8 (no : Int), .slice p m q, .slice p' m' q', .int .u16 (tu : Int), .bool true] 37) := B6.below hb2 B6.lt
  have B52 : Hid (Blk w2 x5 (rsC S d) 31) := B5.below hb2 B5.lt
  have B82 : Hid (Blk w2 x8 [.bool false, .slice none 0 0, .slice none 0 0, .int .u64 0, .bool false, .bool false] 31) := B8.below hb2 B8.lt
  have Q2 : Hid (Below w.heap.size w w2) := q1.trans (hb2.mono q1.size)
  have K0 : BA (Off A x8) w2 (some ⟨g2, 0, none⟩) 32 32 (keyB ky) := o2.ba.mono' fun j _ hj => ⟨HAA.out j (by have := q1.size; omega), by have := HX.out; omega⟩
  have K2 : Hid (BA (Off A x8) w2 (some ⟨g2, 1, none⟩) 31 31 ((keyB ky).drop 1)) := BA.tail (n := 31) (c := 31) (K0)
  clear B5 B6 B8 c61 l61 q1 hb2 o2 K0 hg2
  have c62 : w2.cell? ⟨x6, 2, none⟩ = some (.int .u8 (no : Int)) := B62.out.cell 2
  have c66 : w2.cell? ⟨x6, 6, none⟩ = some (.bool true) := B62.out.cell 6
  have l62 := B62.out.lt
  go_wp2_with fail
  refine (oSNonce w2 n3 7 (by omega) (by omega)).mono ?_
  rintro e w3 ⟨a3, m3, c3, rfl, o3, hb3⟩
  have hm3 : m3 = 12 := by rw [← o3.toBs.len, nonL_length]
  subst hm3
  have B63 := B62.out.below hb3 B62.out.lt
  have c63 : w3.cell? ⟨x6, 2, none⟩ = some (.int .u8 (no : Int)) := B63.cell 2
  have l63 := B63.lt
  clear c62 c66 l62 B63
  go_wp2_with fail
  refine (rNonce12 w3 n3 7 (by omega) (by omega)).mono ?_
  rintro e w4 ⟨a4, m4, c4, rfl, o4, hb4⟩
  have CS : Calls Tryz.prog 20 #[.slice a3 12 c3, .slice a4 m4 c4] w4 fun e w' => e = .returned (.bool true) ∧ Below w4.heap.size w4 w' := by
    have := sameD w4 (o3.toBs.below hb4 (Nat.le_refl _)) o4.toBs
    rw [decide_eq_true rfl] at this
    exact this
  clear c63 l63
  go_wp2_with fail
  refine CS.mono ?_
  rintro _ w5 ⟨rfl, hb5⟩
  have h35 : Below w3.heap.size w3 w5 := hb4.trans (hb5.mono hb4.size)
  have h25 : Below w2.heap.size w2 w5 := hb3.trans (h35.mono hb3.size)
  have Q5 : Hid (Below w.heap.size w w5) := Q2.out.trans (h25.mono Q2.out.size)
  have B55 : Hid (Blk w5 x5 (rsC S d) 31) := B52.out.below h25 B52.out.lt
  have B65 : Hid (Blk w5 x6 [.int .i64 kd, .int .u8 (ky : Int), .int .u8 (no : Int), .slice p m q, .slice p' m' q', .int .u16 (tu : Int), .bool true] 37) := B62.out.below h25 B62.out.lt
  have B85 : Hid (Blk w5 x8 [.bool false, .slice none 0 0, .slice none 0 0, .int .u64 0, .bool false, .bool false] 31) := B82.out.below h25 B82.out.lt
  have K5 : Hid (BA (Off A x8) w5 (some ⟨g2, 1, none⟩) 31 31 ((keyB ky).drop 1)) := K2.out.below' h25
  have hx82 := B82.out.lt
  have N5 : Hid (BA (Off A x8) w5 a3 12 c3 (nonL n3 7)) := (o3.ba.below' h35).mono' fun j _ hj => ⟨HAA.out j (by have := Q2.out.size; omega), by omega⟩
  have R5 : Hid (RS (Off A x8) w5 S d) := HR.out.grow Q5.out
  have Pb : Hid (BA (Off A x8) w5 p m q bs) := HB.out.below' Q5.out
  have Pt : Hid (BA (Off A x8) w5 p' m' q' tx) := HT.out.below' Q5.out
  have Pl : Hid (BA (Off A x8) w5 al ml cl ll) := HL.out.below' Q5.out
  have SE5 : Hid (Se U w5 r S M) := HI.out.se.grow Q5.out
  have A5 : Hid (∀ j, w5.heap.size ≤ j → Off A x8 j) := fun j hj => ⟨HAA.out j (by have := Q5.out.size; omega), by have := B85.out.lt; omega⟩
  have KL : Hid (((keyB ky).drop 1).length = 31) := K5.out.1.len
  have NU5 : Hid (∀ j, Off A x8 j → ¬ U j) := fun j hj => HI.out.off j hj.1
  have OK5 : Hid (S.Ok) := HI.out.ok
  have SZ5 : Hid (S.count + S.book.length + S.kids.length ≤ 900) := HI.out.nb
  have KN5 : Hid (Kon w5) := HKK.out.below Q5.out HKK.out.lt
  clear hb3 hb4 hb5 h35 h25 o3 o4 CS B52 B62 B82 K2 Q2 HR HB HT HL HKK HX hx82
  generalize (keyB ky).drop 1 = KY at *
  generalize nonL n3 7 = NN at *
  have c60 : w5.cell? ⟨x6, 0, none⟩ = some (.int .i64 kd) := B65.out.cell 0
  have c63 : w5.cell? ⟨x6, 3, none⟩ = some (.slice p m q) := B65.out.cell 3
  have c64 : w5.cell? ⟨x6, 4, none⟩ = some (.slice p' m' q') := B65.out.cell 4
  have c65 : w5.cell? ⟨x6, 5, none⟩ = some (.int .u16 (tu : Int)) := B65.out.cell 5
  have l65 := B65.out.lt
  go_wp2_with (first
    | ((with_reducible refine at_ld 31 ?_); (refine ld 31 (.tmp 5) 6 sizeRS _ Tryz.underlying31 rfl x5 0 (rsC S d) rfl B55.out.whole rfl ?_))
    | ((with_reducible refine at_st 31 ?_); (refine st' 31 (.tmp 8) (.tmp 153) 6 sizeRS x8 0 (rsC S d) rfl (rsC_one S d) (B85.out.there 0 6 (by simp)) rfl rfl ?_); intro w9 hw9; have B9 : Hid (Blk w9 x8 (rsC S d) 31) := (by rw [hw9]; exact B85.out.setsW _ rfl); have K9 : Hid (Kp (fun j => j = x8) w5 w9) := (by rw [hw9]; exact Kp.sets _ x8 _ 0); clear hw9))
  refine bodyPost_ret (v := .tuple #[rsV S d, .slice al ml cl, .bool true]) (resCTT12 Tryz.results8 _ _ x8 _ rfl (run_loadVar_row _ x8 31 31 _ (0, 0) _ B9.out Tryz.underlying31 rfl sizeRS) _ _ rfl rfl) rfl ?_
  have N9 : ∀ j, Off A x8 j → ¬ j = x8 := fun j hj => hj.2
  have RF : RS A w9 S d := (R5.out.keep K9.out.size fun j hj ha => K9.out.block j hj (N9 j ha)).mono fun j _ hj => hj.1
  have YF : BA A w9 al ml cl ll := (Pl.out.kp K9.out N9).mono' fun j _ hj => hj.1
  have SF : Se U w9 r S M := SE5.out.kp K9.out fun j hj e => by have := HU.out j hj; omega
  have KF : Kp U w w9 := Kp.later (Kp.of_below Q5.out) K9.out fun j hj => by omega
  exact ⟨S, d, al, ml, cl, ll, rfl, Nx.refl OK5.out, SF, RF, YF, zl, KF⟩

end Go.Proofs.YtjpejheipkfanaaGreatDoor

/-
  The contract of layer 12's statements' 'do'. Conditions: bytes of at most 60, what was sealed last of at most 100, at most 900 things in all.
-/
namespace Go.Proofs.YtjpejheipkfanaaGreatDoor
open Go.RowKit
set_option linter.unusedVariables false

theorem lDo12 (w : World) (hK : Kon w) {U A : Nat → Prop} {r : Nat} {S : SeaS} {M : SeaM} {d : Du} (h : DoI U A w r S M d) (o : Op12) (hf : o.fit) {ll : List UInt8} {p p' al : Option Addr} {m q m' q' ml cl : Nat} (hb : BA A w p m q o.beside) (ht : BA A w p' m' q' o.text) (hl : BA A w al ml cl ll) (zb : m ≤ 60) (zt : m' ≤ 60) (zl : ml ≤ 100) :
    Calls Tryz.prog 8 #[.pointer (some ⟨r, 0, none⟩), rsV S d, .agg (ok12 o p m q p' m' q').toArray, .slice al ml cl] w (DoneS U A r M S w) := by
  obtain ⟨kd, ky, no, bs, tx, tu, sh⟩ := o
  obtain ⟨_, h1, h2, h3⟩ := hf
  dsimp only at hb ht h1 h2 h3
  by_cases j0 : kd = 0
  · subst j0
    cases sh
    · exact lDo0F w hK h h1 h2 h3 hb ht hl zb zt zl
    · exact lDo0T w hK h h1 h2 h3 hb ht hl zb zt zl
  by_cases j1 : kd = 1
  · subst j1
    cases sh
    · exact lDo1F w hK h h1 h2 h3 hb ht hl zb zt zl
    · exact lDo1T w hK h h1 h2 h3 hb ht hl zb zt zl
  by_cases j2 : kd = 2
  · subst j2
    cases sh
    · exact lDo2F w hK h h1 h2 h3 hb ht hl zb zt zl
    · exact lDo2T w hK h h1 h2 h3 hb ht hl zb zt zl
  by_cases j3 : kd = 3
  · subst j3
    cases sh
    · exact lDo3F w hK h h1 h2 h3 hb ht hl zb zt zl
    · exact lDo3T w hK h h1 h2 h3 hb ht hl zb zt zl
  cases sh
  · exact lDo4F w hK h j0 j1 j2 j3 h1 h2 h3 hb ht hl zb zt zl
  · exact lDo4T w hK h j0 j1 j2 j3 h1 h2 h3 hb ht hl zb zt zl

end Go.Proofs.YtjpejheipkfanaaGreatDoor

/-
  The loop of layer 12's statements SealIdeal and SealReal: both sealers behind so many acts ('LoI'). No condition; no statement of the seat is proved here.
-/
namespace Go.Proofs.YtjpejheipkfanaaGreatDoor
open Go.RowKit
set_option linter.unusedVariables false

theorem sizeOp12 : (Tryz.prog.info? 37).map (·.size) = some 7 := by kernel_rfl
/-- Both sealers behind t acts; the reference's in variable x. -/
structure LoI (w wr : World) (U : Nat → Prop) (s x : Nat) (M : SeaM) (S : SeaS) (d : Du) (al : Option Addr) (ml cl : Nat) (ll : List UInt8) (t : Nat) : Prop where
  se : Se U wr s S M
  ok : S.Ok
  rs : RS (fun j => ¬ U j ∧ j ≠ x) wr S d
  blk : Blk wr x (rsC S d) 31
  last : BA (fun j => ¬ U j ∧ j ≠ x) wr al ml cl ll
  zl : ml ≤ 100
  bel : Below w.heap.size w wr
  nb : S.count + S.book.length + S.kids.length ≤ 2 * t
  base : ∀ j, U j → w.heap.size ≤ j
  nx : ¬ U x
  xw : w.heap.size ≤ x
theorem LoI.grow {w wr wr' : World} {U : Nat → Prop} {s x : Nat} {M : SeaM} {S : SeaS} {d : Du} {al : Option Addr} {ml cl : Nat} {ll : List UInt8} {t : Nat} (h : LoI w wr U s x M S d al ml cl ll t) (hb : Below wr.heap.size wr wr') : LoI w wr' U s x M S d al ml cl ll t :=
  ⟨h.se.grow hb, h.ok, h.rs.grow hb, h.blk.below hb h.blk.lt, h.last.below' hb, h.zl, h.bel.trans (hb.mono h.bel.size), h.nb, h.base, h.nx, h.xw⟩
theorem LoI.doI {w wr : World} {U : Nat → Prop} {s x : Nat} {M : SeaM} {S : SeaS} {d : Du} {al : Option Addr} {ml cl : Nat} {ll : List UInt8} {t : Nat} (h : LoI w wr U s x M S d al ml cl ll t) (ht : t ≤ 40) : DoI U (fun j => ¬ U j ∧ j ≠ x) wr s S M d :=
  ⟨h.se, h.ok, h.rs, fun j hj => hj.1, fun j hj => ⟨fun hu => by have := h.se.lt j hu; omega, by have := h.blk.lt; omega⟩, by have := h.nb; omega⟩
theorem LoI.arg {w wr : World} {U : Nat → Prop} {s x : Nat} {M : SeaM} {S : SeaS} {d : Du} {al : Option Addr} {ml cl : Nat} {ll : List UInt8} {t : Nat} (h : LoI w wr U s x M S d al ml cl ll t) {p : Option Addr} {m q : Nat} {b : List UInt8} (hb : BA (fun j => j < w.heap.size) w p m q b) : BA (fun j => ¬ U j ∧ j ≠ x) wr p m q b :=
  (hb.below' h.bel).mono' fun j _ hj => ⟨fun hu => by have := h.base j hu; omega, by have := h.xw; omega⟩
theorem LoI.first {w v1 : World} {U : Nat → Prop} {s : Nat} {M : SeaM} {i : Bool} (hs : Se U v1 s (SeaS.new i) M) (hU : ∀ j, U j → w.heap.size ≤ j) (hb : Below w.heap.size w v1) : LoI w (v1.alloc (.cells #[.bool i, .slice none 0 0, .slice none 0 0, .int .u64 0, .bool false, .bool false] 31)) U s v1.heap.size M (SeaS.new i) ⟨none, 0, 0, none, 0, 0⟩ none 0 0 [] 0 :=
  ⟨hs.grow (below_alloc v1 _), SeaS.Ok.new i, ⟨Sl.nil _ _ _ _, Sl.nil _ _ _ _⟩, Blk.new v1 _ _, BA.nil _ _, by omega, hb.trans ((below_alloc v1 _).mono hb.size), by simp [SeaS.new], hU, fun hu => by have := hs.lt _ hu; omega, hb.size⟩
theorem LoI.next {w wr u2 u3 u4 u5 : World} {U : Nat → Prop} {s x : Nat} {M : SeaM} {S S' : SeaS} {d d' : Du} {al a2 : Option Addr} {ml cl m2 c2 : Nat} {ll l2 : List UInt8} {t : Nat} (h : LoI w wr U s x M S d al ml cl ll t) (hN : Nx S S') (hse : Se U u2 s S' M) (hrs : RS (fun j => ¬ U j ∧ j ≠ x) u2 S' d') (hba : BA (fun j => ¬ U j ∧ j ≠ x) u2 a2 m2 c2 l2) (hm : m2 ≤ 100) (hk : Kp U wr u2) (q3 : Below u2.heap.size u2 u3) (B4 : Blk u4 x (rsC S' d') 31) (k4 : Kp (fun j => j = x) u3 u4) (q5 : Below u4.heap.size u4 u5) : LoI w u5 U s x M S' d' a2 m2 c2 l2 (t + 1) := by
  have k : Kp (fun j => j = x) u2 u5 := ((Kp.of_below q3).trans k4).trans (Kp.of_below q5)
  have hn : ∀ j, (¬ U j ∧ j ≠ x) → ¬ j = x := fun j hj => hj.2
  refine ⟨hse.kp k fun j hj e => h.nx (e ▸ hj), hN.ok, hrs.keep k.size fun j hj ha => k.block j hj (hn j ha), B4.below q5 B4.lt, hba.kp k hn, hm, ?_, by have := hN.size; have := h.nb; omega, h.base, h.nx, h.xw⟩
  exact Kp.new (Kp.new h.bel hk fun j hj => h.base j hj) k fun j hj => by have := h.xw; omega

end Go.Proofs.YtjpejheipkfanaaGreatDoor

/-
  How an argument that is a slice of slices of bytes is opened into plain lists. No condition; no statement of the seat is proved here.
-/
namespace Go.Proofs.YtjpejheipkfanaaGreatDoor
open Go.RowKit Go.ChangeShapes Go.WideShapes Go.ChangeAt

theorem Bss.of_trod {H : Type} {enc : TypeId × Value → H} {W : World} {base : Nat} {held : Bool} {fuel : Nat} {a : Option Addr} {n c : Nat} {x : DataW H × List MemPlace}
    (h : DataW.trod enc Tryz.prog W base (fun _ => true) held fuel 63 [.slice a n c] = some x) : ∃ ls, Bss W a n c ls := by
  rcases Deep.open_int_rows Tryz.underlying63 Tryz.underlying32 Tryz.underlying5 (by kernel_rfl) (by kernel_rfl) h with ⟨hcs, _⟩ | ⟨y, len, cap, A, L, C, Z, hcs, _, hl, hm, _, hrow⟩
  · simp at hcs
    obtain ⟨rfl, rfl, rfl⟩ := hcs
    exact ⟨[], rfl, Nat.le_refl _, Nat.zero_le _, fun i hi => by omega⟩
  · simp at hcs
    obtain ⟨rfl, rfl, rfl⟩ := hcs
    have hex : ∀ r, r < n → ∃ l, Bs W (A r) (L r) (C r) l := by
      intro r hr
      obtain ⟨_, h1, h2, h3, h4, h5, h6⟩ := hrow r (by omega)
      cases hA : A r with
      | none =>
        have := h5 hA
        exact Bs.of_row (zs := []) (Or.inl ⟨rfl, by omega, this, rfl⟩)
      | some x =>
        exact Bs.of_row (zs := Z r) (Or.inr ⟨x, rfl, h1, h2, h3, fun i hi => (h6 x hA).2 i (by omega), h4⟩)
    obtain ⟨f, hf⟩ := Deep.choose_lt hex
    refine ⟨(List.range n).map f, by simp, hl, hm, fun i hi => ?_⟩
    obtain ⟨b, o, s⟩ := y
    have hs : s = none := by
      have h0 := (hrow 0 (by omega)).1
      simpa [Addr.add] using World.cell?_spot h0
    subst hs
    refine ⟨b, o, A i, L i, C i, rfl, ?_, ?_⟩
    · have := (hrow i (by omega)).1
      rw [add_none] at this
      exact this
    · have e : ((List.range n).map f).getD i [] = f i := by simp [List.getD_eq_getElem?_getD, hi]
      rw [e]
      exact hf i hi
end Go.Proofs.YtjpejheipkfanaaGreatDoor
