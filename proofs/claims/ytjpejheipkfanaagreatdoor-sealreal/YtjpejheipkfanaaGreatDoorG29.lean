/-
  1 texts in one. No statement of the seat is proved here.
-/
import Derived.Test.YtjpejheipkfanaaGreatDoorG28

/-
  The contract of layer 12's statements' 'do': what was sealed last is opened. Conditions: bytes of at most 60, what was sealed last of at most 100, at most 900 things in all.
-/
namespace Go.Proofs.YtjpejheipkfanaaGreatDoor
open Go.RowKit
set_option linter.unusedVariables false

set_option maxRecDepth 100000 in
set_option maxHeartbeats 4000000 in
theorem lDo2F (w : World) (hK : Kon w) {U A : Nat → Prop} {r : Nat} {S : SeaS} {M : SeaM} {d : Du} (h : DoI U A w r S M d) {ky no tu : Nat} {bs tx ll : List UInt8} (hky : ky ≤ 255) (hno : no ≤ 255) (htu : tu ≤ 65535) {p p' al : Option Addr} {m q m' q' ml cl : Nat} (hb : BA A w p m q bs) (ht : BA A w p' m' q' tx) (hl : BA A w al ml cl ll) (zb : m ≤ 60) (zt : m' ≤ 60) (zl : ml ≤ 100) :
    Calls Tryz.prog 8 #[.pointer (some ⟨r, 0, none⟩), rsV S d, .agg #[.int .i64 2, .int .u8 (ky : Int), .int .u8 (no : Int), .slice p m q, .slice p' m' q', .int .u16 (tu : Int), .bool false], .slice al ml cl] w (DoneS U A r M S w) := by
  have HI : Hid (DoI U A w r S M d) := h
  have HKK : Hid (Kon w) := hK
  have HB : Hid (BA (Off A (w.heap.size + 2)) w p m q bs) := hb.off (by omega)
  have HT : Hid (BA (Off A (w.heap.size + 2)) w p' m' q' tx) := ht.off (by omega)
  have HL : Hid (BA (Off A (w.heap.size + 2)) w al ml cl ll) := hl.off (by omega)
  have HR : Hid (RS (Off A (w.heap.size + 2)) w S d) := h.rs.off (by omega)
  have HAA : Hid (∀ j, w.heap.size ≤ j → A j) := h.new
  have HU : Hid (∀ j, U j → j < w.heap.size) := h.se.lt
  clear h hb ht hl hK
  have q1 : Below w.heap.size w (((w.alloc (.cells #[.bool S.ideal, .slice d.ba d.bn d.bc, .slice d.ca d.cn d.cc, .int .u64 (S.count : Int), .bool S.reused, .bool S.forged] 31)).alloc (.cells #[.int .i64 2, .int .u8 (ky : Int), .int .u8 (no : Int), .slice p m q, .slice p' m' q', .int .u16 (tu : Int), .bool false] 37)).alloc (.cells #[.bool false, .slice none 0 0, .slice none 0 0, .int .u64 0, .bool false, .bool false] 31)) := (below_alloc w (.cells #[.bool S.ideal, .slice d.ba d.bn d.bc, .slice d.ca d.cn d.cc, .int .u64 (S.count : Int), .bool S.reused, .bool S.forged] 31)).trans (((below_alloc (w.alloc (.cells #[.bool S.ideal, .slice d.ba d.bn d.bc, .slice d.ca d.cn d.cc, .int .u64 (S.count : Int), .bool S.reused, .bool S.forged] 31)) (.cells #[.int .i64 2, .int .u8 (ky : Int), .int .u8 (no : Int), .slice p m q, .slice p' m' q', .int .u16 (tu : Int), .bool false] 37)).trans ((below_alloc ((w.alloc (.cells #[.bool S.ideal, .slice d.ba d.bn d.bc, .slice d.ca d.cn d.cc, .int .u64 (S.count : Int), .bool S.reused, .bool S.forged] 31)).alloc (.cells #[.int .i64 2, .int .u8 (ky : Int), .int .u8 (no : Int), .slice p m q, .slice p' m' q', .int .u16 (tu : Int), .bool false] 37)) (.cells #[.bool false, .slice none 0 0, .slice none 0 0, .int .u64 0, .bool false, .bool false] 31)).mono (by simp))).mono (by simp))
  have B5 : Blk (((w.alloc (.cells #[.bool S.ideal, .slice d.ba d.bn d.bc, .slice d.ca d.cn d.cc, .int .u64 (S.count : Int), .bool S.reused, .bool S.forged] 31)).alloc (.cells #[.int .i64 2, .int .u8 (ky : Int), .int .u8 (no : Int), .slice p m q, .slice p' m' q', .int .u16 (tu : Int), .bool false] 37)).alloc (.cells #[.bool false, .slice none 0 0, .slice none 0 0, .int .u64 0, .bool false, .bool false] 31)) w.heap.size (rsC S d) 31 := ((Blk.new w #[.bool S.ideal, .slice d.ba d.bn d.bc, .slice d.ca d.cn d.cc, .int .u64 (S.count : Int), .bool S.reused, .bool S.forged] 31).old (.cells #[.int .i64 2, .int .u8 (ky : Int), .int .u8 (no : Int), .slice p m q, .slice p' m' q', .int .u16 (tu : Int), .bool false] 37)).old (.cells #[.bool false, .slice none 0 0, .slice none 0 0, .int .u64 0, .bool false, .bool false] 31)
  have B6 : Blk (((w.alloc (.cells #[.bool S.ideal, .slice d.ba d.bn d.bc, .slice d.ca d.cn d.cc, .int .u64 (S.count : Int), .bool S.reused, .bool S.forged] 31)).alloc (.cells #[.int .i64 2, .int .u8 (ky : Int), .int .u8 (no : Int), .slice p m q, .slice p' m' q', .int .u16 (tu : Int), .bool false] 37)).alloc (.cells #[.bool false, .slice none 0 0, .slice none 0 0, .int .u64 0, .bool false, .bool false] 31)) (w.heap.size + 1) [.int .i64 2, .int .u8 (ky : Int), .int .u8 (no : Int), .slice p m q, .slice p' m' q', .int .u16 (tu : Int), .bool false] 37 := (Blk.newAt (w.alloc (.cells #[.bool S.ideal, .slice d.ba d.bn d.bc, .slice d.ca d.cn d.cc, .int .u64 (S.count : Int), .bool S.reused, .bool S.forged] 31)) #[.int .i64 2, .int .u8 (ky : Int), .int .u8 (no : Int), .slice p m q, .slice p' m' q', .int .u16 (tu : Int), .bool false] 37 _ (by simp) _ rfl).old (.cells #[.bool false, .slice none 0 0, .slice none 0 0, .int .u64 0, .bool false, .bool false] 31)
  have B8 : Blk (((w.alloc (.cells #[.bool S.ideal, .slice d.ba d.bn d.bc, .slice d.ca d.cn d.cc, .int .u64 (S.count : Int), .bool S.reused, .bool S.forged] 31)).alloc (.cells #[.int .i64 2, .int .u8 (ky : Int), .int .u8 (no : Int), .slice p m q, .slice p' m' q', .int .u16 (tu : Int), .bool false] 37)).alloc (.cells #[.bool false, .slice none 0 0, .slice none 0 0, .int .u64 0, .bool false, .bool false] 31)) (w.heap.size + 2) [.bool false, .slice none 0 0, .slice none 0 0, .int .u64 0, .bool false, .bool false] 31 := Blk.newAt ((w.alloc (.cells #[.bool S.ideal, .slice d.ba d.bn d.bc, .slice d.ca d.cn d.cc, .int .u64 (S.count : Int), .bool S.reused, .bool S.forged] 31)).alloc (.cells #[.int .i64 2, .int .u8 (ky : Int), .int .u8 (no : Int), .slice p m q, .slice p' m' q', .int .u16 (tu : Int), .bool false] 37)) _ _ _ (by simp) _ rfl
  obtain ⟨n3, hn3⟩ : ∃ n3, n3 = no % 3 := ⟨_, rfl⟩
  have i1 : (no : Int).tmod 3 = (n3 : Int) := by rw [Int.tmod_eq_emod_of_nonneg (by omega)]; omega
  have i2 : (no : Int) % 3 = (n3 : Int) := by omega
  have i3 : n3 ≤ 2 := by omega
  clear hn3
  show Calls Tryz.prog _ #[_, .agg #[.bool S.ideal, .slice d.ba d.bn d.bc, .slice d.ca d.cn d.cc, .int .u64 (S.count : Int), .bool S.reused, .bool S.forged], .agg #[.int .i64 2, .int .u8 (ky : Int), .int .u8 (no : Int), .slice p m q, .slice p' m' q', .int .u16 (tu : Int), .bool false], _] w _
  go_enter Tryz.func8, Tryz.ntmps8
  go_upto_region 1 with fail
  obtain ⟨x5, hx5⟩ : ∃ x, x = w.heap.size := ⟨_, rfl⟩
  obtain ⟨x6, hx6⟩ : ∃ x, x = w.heap.size + 1 := ⟨_, rfl⟩
  obtain ⟨x8, hx8⟩ : ∃ x, x = w.heap.size + 2 := ⟨_, rfl⟩
  rw [← hx8] at B8 HB HT HL HR ⊢
  rw [← hx6] at B6 ⊢
  rw [← hx5] at B5 ⊢
  have hxx : w.heap.size ≤ x5 ∧ x5 < x6 ∧ x6 < x8 := by omega
  clear hx5 hx6 hx8
  generalize ((w.alloc (.cells #[.bool S.ideal, .slice d.ba d.bn d.bc, .slice d.ca d.cn d.cc, .int .u64 (S.count : Int), .bool S.reused, .bool S.forged] 31)).alloc (.cells #[.int .i64 2, .int .u8 (ky : Int), .int .u8 (no : Int), .slice p m q, .slice p' m' q', .int .u16 (tu : Int), .bool false] 37)).alloc (.cells #[.bool false, .slice none 0 0, .slice none 0 0, .int .u64 0, .bool false, .bool false] 31) = w1 at *
  have HX : Hid (x8 < w1.heap.size) := B8.lt
  have c61 : w1.cell? ⟨x6, 1, none⟩ = some (.int .u8 (ky : Int)) := B6.cell 1
  have l61 := B6.lt
  go_wp2_with fail
  refine (lKey12 w1 ky hky).mono ?_
  rintro e w2 ⟨g2, rfl, hg2, o2, hb2⟩
  have B62 : Hid (Blk w2 x6 [.int .i64 2, .int .u8 (ky : Int), .int .u8 (no : Int), .slice p m q, .slice p' m' q', .int .u16 (tu : Int), .bool false] 37) := B6.below hb2 B6.lt
  have B52 : Hid (Blk w2 x5 (rsC S d) 31) := B5.below hb2 B5.lt
  have B82 : Hid (Blk w2 x8 [.bool false, .slice none 0 0, .slice none 0 0, .int .u64 0, .bool false, .bool false] 31) := B8.below hb2 B8.lt
  have Q2 : Hid (Below w.heap.size w w2) := q1.trans (hb2.mono q1.size)
  have K0 : BA (Off A x8) w2 (some ⟨g2, 0, none⟩) 32 32 (keyB ky) := o2.ba.mono' fun j _ hj => ⟨HAA.out j (by have := q1.size; omega), by have := HX.out; omega⟩
  have K2 : Hid (BA (Off A x8) w2 (some ⟨g2, 0, none⟩) 32 32 (keyB ky)) := K0
  clear B5 B6 B8 c61 l61 q1 hb2 o2 K0 hg2
  have c62 : w2.cell? ⟨x6, 2, none⟩ = some (.int .u8 (no : Int)) := B62.out.cell 2
  have c66 : w2.cell? ⟨x6, 6, none⟩ = some (.bool false) := B62.out.cell 6
  have l62 := B62.out.lt
  go_wp2_with fail
  refine (oSNonce w2 n3 7 (by omega) (by omega)).mono ?_
  rintro e w3 ⟨a3, m3, c3, rfl, o3, hb3⟩
  have hm3 : m3 = 12 := by rw [← o3.toBs.len, nonL_length]
  subst hm3
  have B63 := B62.out.below hb3 B62.out.lt
  have c63 : w3.cell? ⟨x6, 2, none⟩ = some (.int .u8 (no : Int)) := B63.cell 2
  have l63 := B63.lt
  clear c62 c66 l62 B63
  go_wp2_with fail
  refine (rNonce12 w3 n3 7 (by omega) (by omega)).mono ?_
  rintro e w4 ⟨a4, m4, c4, rfl, o4, hb4⟩
  have CS : Calls Tryz.prog 20 #[.slice a3 12 c3, .slice a4 m4 c4] w4 fun e w' => e = .returned (.bool true) ∧ Below w4.heap.size w4 w' := by
    have := sameD w4 (o3.toBs.below hb4 (Nat.le_refl _)) o4.toBs
    rw [decide_eq_true rfl] at this
    exact this
  clear c63 l63
  go_wp2_with fail
  refine CS.mono ?_
  rintro _ w5 ⟨rfl, hb5⟩
  have h35 : Below w3.heap.size w3 w5 := hb4.trans (hb5.mono hb4.size)
  have h25 : Below w2.heap.size w2 w5 := hb3.trans (h35.mono hb3.size)
  have Q5 : Hid (Below w.heap.size w w5) := Q2.out.trans (h25.mono Q2.out.size)
  have B55 : Hid (Blk w5 x5 (rsC S d) 31) := B52.out.below h25 B52.out.lt
  have B65 : Hid (Blk w5 x6 [.int .i64 2, .int .u8 (ky : Int), .int .u8 (no : Int), .slice p m q, .slice p' m' q', .int .u16 (tu : Int), .bool false] 37) := B62.out.below h25 B62.out.lt
  have B85 : Hid (Blk w5 x8 [.bool false, .slice none 0 0, .slice none 0 0, .int .u64 0, .bool false, .bool false] 31) := B82.out.below h25 B82.out.lt
  have K5 : Hid (BA (Off A x8) w5 (some ⟨g2, 0, none⟩) 32 32 (keyB ky)) := K2.out.below' h25
  have hx82 := B82.out.lt
  have N5 : Hid (BA (Off A x8) w5 a3 12 c3 (nonL n3 7)) := (o3.ba.below' h35).mono' fun j _ hj => ⟨HAA.out j (by have := Q2.out.size; omega), by omega⟩
  have R5 : Hid (RS (Off A x8) w5 S d) := HR.out.grow Q5.out
  have Pb : Hid (BA (Off A x8) w5 p m q bs) := HB.out.below' Q5.out
  have Pt : Hid (BA (Off A x8) w5 p' m' q' tx) := HT.out.below' Q5.out
  have Pl : Hid (BA (Off A x8) w5 al ml cl ll) := HL.out.below' Q5.out
  have SE5 : Hid (Se U w5 r S M) := HI.out.se.grow Q5.out
  have A5 : Hid (∀ j, w5.heap.size ≤ j → Off A x8 j) := fun j hj => ⟨HAA.out j (by have := Q5.out.size; omega), by have := B85.out.lt; omega⟩
  have KL : Hid ((keyB ky).length = 32) := K5.out.1.len
  have NU5 : Hid (∀ j, Off A x8 j → ¬ U j) := fun j hj => HI.out.off j hj.1
  have OK5 : Hid (S.Ok) := HI.out.ok
  have SZ5 : Hid (S.count + S.book.length + S.kids.length ≤ 900) := HI.out.nb
  have KN5 : Hid (Kon w5) := HKK.out.below Q5.out HKK.out.lt
  clear hb3 hb4 hb5 h35 h25 o3 o4 CS B52 B62 B82 K2 Q2 HR HB HT HL HKK HX hx82
  generalize keyB ky = KY at *
  generalize nonL n3 7 = NN at *
  have c60 : w5.cell? ⟨x6, 0, none⟩ = some (.int .i64 2) := B65.out.cell 0
  have c63 : w5.cell? ⟨x6, 3, none⟩ = some (.slice p m q) := B65.out.cell 3
  have c64 : w5.cell? ⟨x6, 4, none⟩ = some (.slice p' m' q') := B65.out.cell 4
  have c65 : w5.cell? ⟨x6, 5, none⟩ = some (.int .u16 (tu : Int)) := B65.out.cell 5
  have l65 := B65.out.lt
  go_wp2_with fail
  refine (lTurned12 w5 Pl.out.1 (by omega) tu htu).mono ?_
  rintro e w5' ⟨at', ct, lt, rfl, hlt, ot, hbt⟩
  have Q5' : Hid (Below w.heap.size w w5') := Q5.out.trans (hbt.mono Q5.out.size)
  have B55' : Hid (Blk w5' x5 (rsC S d) 31) := B55.out.below hbt B55.out.lt
  have B65' : Hid (Blk w5' x6 [.int .i64 2, .int .u8 (ky : Int), .int .u8 (no : Int), .slice p m q, .slice p' m' q', .int .u16 (tu : Int), .bool false] 37) := B65.out.below hbt B65.out.lt
  have B85' : Hid (Blk w5' x8 [.bool false, .slice none 0 0, .slice none 0 0, .int .u64 0, .bool false, .bool false] 31) := B85.out.below hbt B85.out.lt
  have K5' : Hid (BA (Off A x8) w5' (some ⟨g2, 0, none⟩) 32 32 KY) := K5.out.below' hbt
  have N5' : Hid (BA (Off A x8) w5' a3 12 c3 NN) := N5.out.below' hbt
  have R5' : Hid (RS (Off A x8) w5' S d) := R5.out.grow hbt
  have Pb' : Hid (BA (Off A x8) w5' p m q bs) := Pb.out.below' hbt
  have Pl' : Hid (BA (Off A x8) w5' al ml cl ll) := Pl.out.below' hbt
  have Pt' : Hid (BA (Off A x8) w5' at' ml ct lt) := ot.ba.mono' fun j _ hj => A5.out j hj
  have SE5' : Hid (Se U w5' r S M) := SE5.out.grow hbt
  have A5' : Hid (∀ j, w5'.heap.size ≤ j → Off A x8 j) := fun j hj => A5.out j (Nat.le_trans hbt.size hj)
  have c63' : w5'.cell? ⟨x6, 3, none⟩ = some (.slice p m q) := B65'.out.cell 3
  have l65' := B65'.out.lt
  clear Q5 B55 B65 B85 K5 N5 R5 Pb Pl Pt SE5 A5 KN5 hbt ot c60 c63 c64 c65 l65
  obtain ⟨S', L, cd, hNx, CR, CP⟩ := opens2 OK5.out SZ5.out KY NN bs lt 32 KL.out (by omega) N5'.out.1.len
  have HNX : Hid (Nx S S') := hNx
  have HCP : Hid _ := CP
  clear CP hNx
  have CR5 := CR w5' (Off A x8) d _ _ _ _ _ _ _ _ _ _ A5'.out R5'.out K5'.out.1 N5'.out.1 Pb'.out.1 Pt'.out.1 (by omega) (by omega)
  clear CR
  go_wp2_with ((with_reducible refine at_ld 31 ?_); (refine ld 31 (.tmp 5) 6 sizeRS _ Tryz.underlying31 rfl x5 0 (rsC S d) rfl B55'.out.whole rfl ?_))
  refine CR5.mono ?_
  rintro e w6 ⟨d', a6, m6, c6, rfl, r6, b6, hb6⟩
  have B66 := B65'.out.below hb6 B65'.out.lt
  clear CR5 c63' l65'
  go_upto_region 18 with ((with_reducible refine at_st 31 ?_); (refine st' 31 (.tmp 19) (.tmp 105) 6 sizeRS w6.heap.size 0 (rsC S' d') rfl (rsC_one S' d') ((Blk.new w6 #[.bool false, .slice none 0 0, .slice none 0 0, .int .u64 0, .bool false, .bool false] 31).there 0 6 (by simp)) rfl rfl ?_); intro w7 hw7; have BX : Hid (Blk w7 w6.heap.size (rsC S' d') 31) := (by rw [hw7]; exact (Blk.new w6 _ 31).setsW _ rfl); have KX : Hid (Below w6.heap.size w6 w7) := (by rw [hw7]; exact Kp.new (below_alloc w6 (.cells #[.bool false, .slice none 0 0, .slice none 0 0, .int .u64 0, .bool false, .bool false] 31)) (Kp.sets _ w6.heap.size _ 0) fun j hj => by omega); clear hw7)
  obtain ⟨xq, hxq⟩ : ∃ x, x = w6.heap.size := ⟨_, rfl⟩
  rw [← hxq] at BX ⊢
  have hq6 : x8 < w6.heap.size := (B85'.out.below hb6 B85'.out.lt).lt
  have hxq8 : x8 < xq := by omega
  have h57 : Below w5'.heap.size w5' w7 := hb6.trans (KX.out.mono hb6.size)
  have Q7 : Hid (Below w.heap.size w w7) := Q5'.out.trans (h57.mono Q5'.out.size)
  have B67 := B66.below KX.out B66.lt
  have B87 : Hid (Blk w7 x8 [.bool false, .slice none 0 0, .slice none 0 0, .int .u64 0, .bool false, .bool false] 31) := B85'.out.below h57 B85'.out.lt
  have R7 : Hid (RS (Off A x8) w7 S' d') := r6.grow KX.out
  have X7 : Hid (BA (Off A x8) w7 a6 m6 c6 L) := b6.below' KX.out
  have L7 : Hid (BA (Off A x8) w7 al ml cl ll) := Pl'.out.below' h57
  have NUQ : ∀ j, Off A x8 j → ¬ U j := NU5.out
  have CP7 := HCP.out w7 U r M _ _ _ _ _ _ _ _ _ _ (SE5'.out.grow h57) (K5'.out.below' h57).1 (N5'.out.below' h57).1 (Pb'.out.below' h57).1 (Pt'.out.below' h57).1 (by omega) (by omega)
  have c63 : w7.cell? ⟨x6, 3, none⟩ = some (.slice p m q) := B67.cell 3
  have c64 : w7.cell? ⟨x6, 4, none⟩ = some (.slice p' m' q') := B67.cell 4
  have l67 := B67.lt
  clear HCP hb6 h57 r6 b6 B66 B67 B65' B55' B85' K5' N5' R5' Pb' Pt' Pl' SE5' hxq hq6
  go_wp2_with fail
  refine CP7.mono ?_
  rintro e w8 ⟨a8, m8, c8, rfl, b8, s8, k8⟩
  have hw7 := Q7.out.size
  have NU : ∀ j, w.heap.size ≤ j → ¬ U j := fun j hj hu => by have := HU.out j hu; omega
  have B88 : Hid (Blk w8 x8 [.bool false, .slice none 0 0, .slice none 0 0, .int .u64 0, .bool false, .bool false] 31) := k8.blk B87.out (NU _ (by omega))
  have BQ8 : Hid (Blk w8 xq (rsC S' d') 31) := k8.blk BX.out (NU _ (by omega))
  have R8 : Hid (RS (Off A x8) w8 S' d') := R7.out.keep k8.size fun j hj ha => k8.block j hj (NUQ j ha)
  have X8 : Hid (BA (Off A x8) w8 a6 m6 c6 L) := X7.out.kp k8 NUQ
  have L8 : Hid (BA (Off A x8) w8 al ml cl ll) := L7.out.kp k8 NUQ
  have h87 := B87.out.lt
  have Y8 : Hid (BA (Off A x8) w8 a8 m8 c8 L) := b8.mono' fun j _ hj => ⟨HAA.out j (by omega), by omega⟩
  have S8 : Hid (Se U w8 r S' M) := s8
  have KW : Hid (Kp U w w8) := (Kp.of_below Q7.out).trans k8
  have NU8 : Hid (¬ U x8) := NU _ (by omega)
  clear CP7 c63 c64 l67 B87 BX R7 X7 L7 b8 s8 k8 NU
  go_wp2_with fail
  refine regionG (S := Kp (fun j => j = x8) w8) (by kernel_rfl) (Kp.of_below (Below.refl _ w8).drew) ?_
  refine takeG 0 (some 118) ((.agg (rsC S' d').toArray)) rfl rfl (by kernel_rfl) (by kernel_rfl) (by kernel_rfl) (fun _ _ _ h => h) (ans_row 31 (.tmp 19) _ 6 rfl (by rfl) xq 0 rfl (rsC S' d') (fun u hu => (hu.blk BQ8.out (by omega)).whole) Tryz.underlying31 rfl rfl sizeRS) ?_
  simp only [Act.put, List.setIfInBounds_toArray, List.set_cons_zero, List.set_cons_succ]
  refine takeG 1 (some 119) (.slice al ml cl) rfl rfl (by kernel_rfl) (by kernel_rfl) (by kernel_rfl) (fun _ _ _ h => h) (ans_plain (by rfl) (fun w _ => rfl)) ?_
  simp only [Act.put, List.setIfInBounds_toArray, List.set_cons_zero, List.set_cons_succ]
  refine takeG 2 (some 120) (.slice a6 m6 c6) rfl rfl (by kernel_rfl) (by kernel_rfl) (by kernel_rfl) (fun _ _ _ h => h) (ans_plain (by rfl) (fun w _ => rfl)) ?_
  simp only [Act.put, List.setIfInBounds_toArray, List.set_cons_zero, List.set_cons_succ]
  refine takeG 3 (some 121) (.slice a8 m8 c8) rfl rfl (by kernel_rfl) (by kernel_rfl) (by kernel_rfl) (fun _ _ _ h => h) (ans_plain (by rfl) (fun w _ => rfl)) ?_
  simp only [Act.put, List.setIfInBounds_toArray, List.set_cons_zero, List.set_cons_succ]
  refine callG 4 (some 122) 20 #[.tmp 120, .tmp 121] #[32, 32] #[.slice a6 m6 c6, .slice a8 m8 c8] rfl rfl rfl (by rfl) (by rfl) (by kernel_rfl) Tryz.call20 fun u1 hg1 hs1 => ?_
  have CS1 := sameD u1 (X8.out.kp hs1 fun j hj e => hj.2 e).1 (Y8.out.kp hs1 fun j hj e => hj.2 e).1
  rw [decide_eq_true rfl] at CS1
  refine CS1.mono ?_
  rintro _ u2 ⟨rfl, hb2⟩
  refine ⟨_, rfl, hs1.trans (Kp.of_below hb2), ?_⟩
  simp only [Act.put, List.setIfInBounds_toArray, List.set_cons_zero, List.set_cons_succ]
  clear CS1
  refine takeG 5 (some 123) (.bool true) rfl rfl (by kernel_rfl) (by kernel_rfl) (by kernel_rfl) (fun _ _ _ h => h) (ans_plain (by rfl) (fun w _ => rfl)) ?_
  simp only [Act.put, List.setIfInBounds_toArray, List.set_cons_zero, List.set_cons_succ]
  refine takeG 6 (some 124) (.int .i64 cd) rfl rfl (by kernel_rfl) (by kernel_rfl) (by kernel_rfl) (fun _ _ _ h => h) (ans_plain (by rfl) (fun w _ => rfl)) ?_
  simp only [Act.put, List.setIfInBounds_toArray, List.set_cons_zero, List.set_cons_succ]
  refine takeG 7 (some 125) (.int .i64 cd) rfl rfl (by kernel_rfl) (by kernel_rfl) (by kernel_rfl) (fun _ _ _ h => h) (ans_plain (by rfl) (fun w _ => rfl)) ?_
  simp only [Act.put, List.setIfInBounds_toArray, List.set_cons_zero, List.set_cons_succ]
  refine takeG 8 (some 126) (.bool true) rfl rfl (by kernel_rfl) (by kernel_rfl) (by kernel_rfl) (fun _ _ _ h => h) (ans_plain (by rfl) (fun w _ => by unfold execOp; go_simp)) ?_
  simp only [Act.put, List.setIfInBounds_toArray, List.set_cons_zero, List.set_cons_succ]
  refine takeG 9 (some 127) (.bool true) rfl rfl (by kernel_rfl) (by kernel_rfl) (by kernel_rfl) (fun _ _ _ h => h) (ans_plain (by rfl) (fun w _ => by unfold execOp; go_simp)) ?_
  simp only [Act.put, List.setIfInBounds_toArray, List.set_cons_zero, List.set_cons_succ]
  refine oneG 10 (by kernel_rfl) fun u3 hg3 hs3 => ?_
  have B83 : Blk u3 x8 [.bool false, .slice none 0 0, .slice none 0 0, .int .u64 0, .bool false, .bool false] 31 := ((B88.out.below (Grows.ofDrew hg1) B88.out.lt).below hb2 (B88.out.below (Grows.ofDrew hg1) B88.out.lt).lt).grows hg3
  refine opStR 10 31 (.tmp 8) (.tmp 118) 6 rfl rfl rfl rfl x8 [.bool false, .slice none 0 0, .slice none 0 0, .int .u64 0, .bool false, .bool false] (rsC S' d') 31 B83 rfl rfl (rsC_one S' d') sizeRS rfl rfl fun u4 B84 k4 => ?_
  refine ⟨hs3.trans k4, ?_⟩
  refine takeG 11 (some 9) (.slice al ml cl) rfl rfl (by kernel_rfl) (by kernel_rfl) (by kernel_rfl) (fun _ _ _ h => h) (ans_plain (by rfl) (fun w _ => rfl)) ?_
  simp only [Act.put, List.setIfInBounds_toArray, List.set_cons_zero, List.set_cons_succ]
  refine takeG 12 (some 10) (.bool true) rfl rfl (by kernel_rfl) (by kernel_rfl) (by kernel_rfl) (fun _ _ _ h => h) (ans_plain (by rfl) (fun w _ => rfl)) ?_
  simp only [Act.put, List.setIfInBounds_toArray, List.set_cons_zero, List.set_cons_succ]
  refine doneG (by kernel_rfl) fun w9 hg9 hs9 => ?_
  have B9 : Hid (Blk w9 x8 (rsC S' d') 31) := B84.grows hg9
  have K9 : Hid (Kp (fun j => j = x8) w8 w9) := hs9
  clear hg1 hs1 hb2 hg3 hs3 B83 B84 k4 hg9 hs9
  go_wp2_with fail
  refine bodyPost_ret (v := .tuple #[rsV S' d', .slice al ml cl, .bool true]) (resCTT12 Tryz.results8 _ _ x8 _ rfl (run_loadVar_row _ x8 31 31 _ (0, 0) _ B9.out Tryz.underlying31 rfl sizeRS) _ _ rfl rfl) rfl ?_
  have N9 : ∀ j, Off A x8 j → ¬ j = x8 := fun j hj => hj.2
  have RF : RS A w9 S' d' := (R8.out.keep K9.out.size fun j hj ha => K9.out.block j hj (N9 j ha)).mono fun j _ hj => hj.1
  have YF : BA A w9 al ml cl ll := (L8.out.kp K9.out N9).mono' fun j _ hj => hj.1
  have SF : Se U w9 r S' M := S8.out.kp K9.out fun j hj e => NU8.out (e ▸ hj)
  have KF : Kp U w w9 := KW.out.later K9.out fun j hj => by omega
  exact ⟨S', d', al, ml, cl, ll, rfl, HNX.out, SF, RF, YF, zl, KF⟩

set_option maxRecDepth 100000 in
set_option maxHeartbeats 4000000 in
theorem lDo2T (w : World) (hK : Kon w) {U A : Nat → Prop} {r : Nat} {S : SeaS} {M : SeaM} {d : Du} (h : DoI U A w r S M d) {ky no tu : Nat} {bs tx ll : List UInt8} (hky : ky ≤ 255) (hno : no ≤ 255) (htu : tu ≤ 65535) {p p' al : Option Addr} {m q m' q' ml cl : Nat} (hb : BA A w p m q bs) (ht : BA A w p' m' q' tx) (hl : BA A w al ml cl ll) (zb : m ≤ 60) (zt : m' ≤ 60) (zl : ml ≤ 100) :
    Calls Tryz.prog 8 #[.pointer (some ⟨r, 0, none⟩), rsV S d, .agg #[.int .i64 2, .int .u8 (ky : Int), .int .u8 (no : Int), .slice p m q, .slice p' m' q', .int .u16 (tu : Int), .bool true], .slice al ml cl] w (DoneS U A r M S w) := by
  have HI : Hid (DoI U A w r S M d) := h
  have HKK : Hid (Kon w) := hK
  have HB : Hid (BA (Off A (w.heap.size + 2)) w p m q bs) := hb.off (by omega)
  have HT : Hid (BA (Off A (w.heap.size + 2)) w p' m' q' tx) := ht.off (by omega)
  have HL : Hid (BA (Off A (w.heap.size + 2)) w al ml cl ll) := hl.off (by omega)
  have HR : Hid (RS (Off A (w.heap.size + 2)) w S d) := h.rs.off (by omega)
  have HAA : Hid (∀ j, w.heap.size ≤ j → A j) := h.new
  have HU : Hid (∀ j, U j → j < w.heap.size) := h.se.lt
  clear h hb ht hl hK
  have q1 : Below w.heap.size w (((w.alloc (.cells #[.bool S.ideal, .slice d.ba d.bn d.bc, .slice d.ca d.cn d.cc, .int .u64 (S.count : Int), .bool S.reused, .bool S.forged] 31)).alloc (.cells #[.int .i64 2, .int .u8 (ky : Int), .int .u8 (no : Int), .slice p m q, .slice p' m' q', .int .u16 (tu : Int), .bool true] 37)).alloc (.cells #[.bool false, .slice none 0 0, .slice none 0 0, .int .u64 0, .bool false, .bool false] 31)) := (below_alloc w (.cells #[.bool S.ideal, .slice d.ba d.bn d.bc, .slice d.ca d.cn d.cc, .int .u64 (S.count : Int), .bool S.reused, .bool S.forged] 31)).trans (((below_alloc (w.alloc (.cells #[.bool S.ideal, .slice d.ba d.bn d.bc, .slice d.ca d.cn d.cc, .int .u64 (S.count : Int), .bool S.reused, .bool S.forged] 31)) (.cells #[.int .i64 2, .int .u8 (ky : Int), .int .u8 (no : Int), .slice p m q, .slice p' m' q', .int .u16 (tu : Int), .bool true] 37)).trans ((below_alloc ((w.alloc (.cells #[.bool S.ideal, .slice d.ba d.bn d.bc, .slice d.ca d.cn d.cc, .int .u64 (S.count : Int), .bool S.reused, .bool S.forged] 31)).alloc (.cells #[.int .i64 2, .int .u8 (ky : Int), .int .u8 (no : Int), .slice p m q, .slice p' m' q', .int .u16 (tu : Int), .bool true] 37)) (.cells #[.bool false, .slice none 0 0, .slice none 0 0, .int .u64 0, .bool false, .bool false] 31)).mono (by simp))).mono (by simp))
  have B5 : Blk (((w.alloc (.cells #[.bool S.ideal, .slice d.ba d.bn d.bc, .slice d.ca d.cn d.cc, .int .u64 (S.count : Int), .bool S.reused, .bool S.forged] 31)).alloc (.cells #[.int .i64 2, .int .u8 (ky : Int), .int .u8 (no : Int), .slice p m q, .slice p' m' q', .int .u16 (tu : Int), .bool true] 37)).alloc (.cells #[.bool false, .slice none 0 0, .slice none 0 0, .int .u64 0, .bool false, .bool false] 31)) w.heap.size (rsC S d) 31 := ((Blk.new w #[.bool S.ideal, .slice d.ba d.bn d.bc, .slice d.ca d.cn d.cc, .int .u64 (S.count : Int), .bool S.reused, .bool S.forged] 31).old (.cells #[.int .i64 2, .int .u8 (ky : Int), .int .u8 (no : Int), .slice p m q, .slice p' m' q', .int .u16 (tu : Int), .bool true] 37)).old (.cells #[.bool false, .slice none 0 0, .slice none 0 0, .int .u64 0, .bool false, .bool false] 31)
  have B6 : Blk (((w.alloc (.cells #[.bool S.ideal, .slice d.ba d.bn d.bc, .slice d.ca d.cn d.cc, .int .u64 (S.count : Int), .bool S.reused, .bool S.forged] 31)).alloc (.cells #[.int .i64 2, .int .u8 (ky : Int), .int .u8 (no : Int), .slice p m q, .slice p' m' q', .int .u16 (tu : Int), .bool true] 37)).alloc (.cells #[.bool false, .slice none 0 0, .slice none 0 0, .int .u64 0, .bool false, .bool false] 31)) (w.heap.size + 1) [.int .i64 2, .int .u8 (ky : Int), .int .u8 (no : Int), .slice p m q, .slice p' m' q', .int .u16 (tu : Int), .bool true] 37 := (Blk.newAt (w.alloc (.cells #[.bool S.ideal, .slice d.ba d.bn d.bc, .slice d.ca d.cn d.cc, .int .u64 (S.count : Int), .bool S.reused, .bool S.forged] 31)) #[.int .i64 2, .int .u8 (ky : Int), .int .u8 (no : Int), .slice p m q, .slice p' m' q', .int .u16 (tu : Int), .bool true] 37 _ (by simp) _ rfl).old (.cells #[.bool false, .slice none 0 0, .slice none 0 0, .int .u64 0, .bool false, .bool false] 31)
  have B8 : Blk (((w.alloc (.cells #[.bool S.ideal, .slice d.ba d.bn d.bc, .slice d.ca d.cn d.cc, .int .u64 (S.count : Int), .bool S.reused, .bool S.forged] 31)).alloc (.cells #[.int .i64 2, .int .u8 (ky : Int), .int .u8 (no : Int), .slice p m q, .slice p' m' q', .int .u16 (tu : Int), .bool true] 37)).alloc (.cells #[.bool false, .slice none 0 0, .slice none 0 0, .int .u64 0, .bool false, .bool false] 31)) (w.heap.size + 2) [.bool false, .slice none 0 0, .slice none 0 0, .int .u64 0, .bool false, .bool false] 31 := Blk.newAt ((w.alloc (.cells #[.bool S.ideal, .slice d.ba d.bn d.bc, .slice d.ca d.cn d.cc, .int .u64 (S.count : Int), .bool S.reused, .bool S.forged] 31)).alloc (.cells #[.int .i64 2, .int .u8 (ky : Int), .int .u8 (no : Int), .slice p m q, .slice p' m' q', .int .u16 (tu : Int), .bool true] 37)) _ _ _ (by simp) _ rfl
  obtain ⟨n3, hn3⟩ : ∃ n3, n3 = no % 3 := ⟨_, rfl⟩
  have i1 : (no : Int).tmod 3 = (n3 : Int) := by rw [Int.tmod_eq_emod_of_nonneg (by omega)]; omega
  have i2 : (no : Int) % 3 = (n3 : Int) := by omega
  have i3 : n3 ≤ 2 := by omega
  clear hn3
  show Calls Tryz.prog _ #[_, .agg #[.bool S.ideal, .slice d.ba d.bn d.bc, .slice d.ca d.cn d.cc, .int .u64 (S.count : Int), .bool S.reused, .bool S.forged], .agg #[.int .i64 2, .int .u8 (ky : Int), .int .u8 (no : Int), .slice p m q, .slice p' m' q', .int .u16 (tu : Int), .bool true], _] w _
  go_enter Tryz.func8, Tryz.ntmps8
  go_upto_region 1 with fail
  obtain ⟨x5, hx5⟩ : ∃ x, x = w.heap.size := ⟨_, rfl⟩
  obtain ⟨x6, hx6⟩ : ∃ x, x = w.heap.size + 1 := ⟨_, rfl⟩
  obtain ⟨x8, hx8⟩ : ∃ x, x = w.heap.size + 2 := ⟨_, rfl⟩
  rw [← hx8] at B8 HB HT HL HR ⊢
  rw [← hx6] at B6 ⊢
  rw [← hx5] at B5 ⊢
  have hxx : w.heap.size ≤ x5 ∧ x5 < x6 ∧ x6 < x8 := by omega
  clear hx5 hx6 hx8
  generalize ((w.alloc (.cells #[.bool S.ideal, .slice d.ba d.bn d.bc, .slice d.ca d.cn d.cc, .int .u64 (S.count : Int), .bool S.reused, .bool S.forged] 31)).alloc (.cells #[.int .i64 2, .int .u8 (ky : Int), .int .u8 (no : Int), .slice p m q, .slice p' m' q', .int .u16 (tu : Int), .bool true] 37)).alloc (.cells #[.bool false, .slice none 0 0, .slice none 0 0, .int .u64 0, .bool false, .bool false] 31) = w1 at *
  have HX : Hid (x8 < w1.heap.size) := B8.lt
  have c61 : w1.cell? ⟨x6, 1, none⟩ = some (.int .u8 (ky : Int)) := B6.cell 1
  have l61 := B6.lt
  go_wp2_with fail
  refine (lKey12 w1 ky hky).mono ?_
  rintro e w2 ⟨g2, rfl, hg2, o2, hb2⟩
  have B62 : Hid (Blk w2 x6 [.int .i64 2, .int .u8 (ky : Int), .int .u8 (no : Int), .slice p m q, .slice p' m' q', .int .u16 (tu : Int), .bool true] 37) := B6.below hb2 B6.lt
  have B52 : Hid (Blk w2 x5 (rsC S d) 31) := B5.below hb2 B5.lt
  have B82 : Hid (Blk w2 x8 [.bool false, .slice none 0 0, .slice none 0 0, .int .u64 0, .bool false, .bool false] 31) := B8.below hb2 B8.lt
  have Q2 : Hid (Below w.heap.size w w2) := q1.trans (hb2.mono q1.size)
  have K0 : BA (Off A x8) w2 (some ⟨g2, 0, none⟩) 32 32 (keyB ky) := o2.ba.mono' fun j _ hj => ⟨HAA.out j (by have := q1.size; omega), by have := HX.out; omega⟩
  have K2 : Hid (BA (Off A x8) w2 (some ⟨g2, 1, none⟩) 31 31 ((keyB ky).drop 1)) := BA.tail (n := 31) (c := 31) (K0)
  clear B5 B6 B8 c61 l61 q1 hb2 o2 K0 hg2
  have c62 : w2.cell? ⟨x6, 2, none⟩ = some (.int .u8 (no : Int)) := B62.out.cell 2
  have c66 : w2.cell? ⟨x6, 6, none⟩ = some (.bool true) := B62.out.cell 6
  have l62 := B62.out.lt
  go_wp2_with fail
  refine (oSNonce w2 n3 7 (by omega) (by omega)).mono ?_
  rintro e w3 ⟨a3, m3, c3, rfl, o3, hb3⟩
  have hm3 : m3 = 12 := by rw [← o3.toBs.len, nonL_length]
  subst hm3
  have B63 := B62.out.below hb3 B62.out.lt
  have c63 : w3.cell? ⟨x6, 2, none⟩ = some (.int .u8 (no : Int)) := B63.cell 2
  have l63 := B63.lt
  clear c62 c66 l62 B63
  go_wp2_with fail
  refine (rNonce12 w3 n3 7 (by omega) (by omega)).mono ?_
  rintro e w4 ⟨a4, m4, c4, rfl, o4, hb4⟩
  have CS : Calls Tryz.prog 20 #[.slice a3 12 c3, .slice a4 m4 c4] w4 fun e w' => e = .returned (.bool true) ∧ Below w4.heap.size w4 w' := by
    have := sameD w4 (o3.toBs.below hb4 (Nat.le_refl _)) o4.toBs
    rw [decide_eq_true rfl] at this
    exact this
  clear c63 l63
  go_wp2_with fail
  refine CS.mono ?_
  rintro _ w5 ⟨rfl, hb5⟩
  have h35 : Below w3.heap.size w3 w5 := hb4.trans (hb5.mono hb4.size)
  have h25 : Below w2.heap.size w2 w5 := hb3.trans (h35.mono hb3.size)
  have Q5 : Hid (Below w.heap.size w w5) := Q2.out.trans (h25.mono Q2.out.size)
  have B55 : Hid (Blk w5 x5 (rsC S d) 31) := B52.out.below h25 B52.out.lt
  have B65 : Hid (Blk w5 x6 [.int .i64 2, .int .u8 (ky : Int), .int .u8 (no : Int), .slice p m q, .slice p' m' q', .int .u16 (tu : Int), .bool true] 37) := B62.out.below h25 B62.out.lt
  have B85 : Hid (Blk w5 x8 [.bool false, .slice none 0 0, .slice none 0 0, .int .u64 0, .bool false, .bool false] 31) := B82.out.below h25 B82.out.lt
  have K5 : Hid (BA (Off A x8) w5 (some ⟨g2, 1, none⟩) 31 31 ((keyB ky).drop 1)) := K2.out.below' h25
  have hx82 := B82.out.lt
  have N5 : Hid (BA (Off A x8) w5 a3 12 c3 (nonL n3 7)) := (o3.ba.below' h35).mono' fun j _ hj => ⟨HAA.out j (by have := Q2.out.size; omega), by omega⟩
  have R5 : Hid (RS (Off A x8) w5 S d) := HR.out.grow Q5.out
  have Pb : Hid (BA (Off A x8) w5 p m q bs) := HB.out.below' Q5.out
  have Pt : Hid (BA (Off A x8) w5 p' m' q' tx) := HT.out.below' Q5.out
  have Pl : Hid (BA (Off A x8) w5 al ml cl ll) := HL.out.below' Q5.out
  have SE5 : Hid (Se U w5 r S M) := HI.out.se.grow Q5.out
  have A5 : Hid (∀ j, w5.heap.size ≤ j → Off A x8 j) := fun j hj => ⟨HAA.out j (by have := Q5.out.size; omega), by have := B85.out.lt; omega⟩
  have KL : Hid (((keyB ky).drop 1).length = 31) := K5.out.1.len
  have NU5 : Hid (∀ j, Off A x8 j → ¬ U j) := fun j hj => HI.out.off j hj.1
  have OK5 : Hid (S.Ok) := HI.out.ok
  have SZ5 : Hid (S.count + S.book.length + S.kids.length ≤ 900) := HI.out.nb
  have KN5 : Hid (Kon w5) := HKK.out.below Q5.out HKK.out.lt
  clear hb3 hb4 hb5 h35 h25 o3 o4 CS B52 B62 B82 K2 Q2 HR HB HT HL HKK HX hx82
  generalize (keyB ky).drop 1 = KY at *
  generalize nonL n3 7 = NN at *
  have c60 : w5.cell? ⟨x6, 0, none⟩ = some (.int .i64 2) := B65.out.cell 0
  have c63 : w5.cell? ⟨x6, 3, none⟩ = some (.slice p m q) := B65.out.cell 3
  have c64 : w5.cell? ⟨x6, 4, none⟩ = some (.slice p' m' q') := B65.out.cell 4
  have c65 : w5.cell? ⟨x6, 5, none⟩ = some (.int .u16 (tu : Int)) := B65.out.cell 5
  have l65 := B65.out.lt
  go_wp2_with fail
  refine (lTurned12 w5 Pl.out.1 (by omega) tu htu).mono ?_
  rintro e w5' ⟨at', ct, lt, rfl, hlt, ot, hbt⟩
  have Q5' : Hid (Below w.heap.size w w5') := Q5.out.trans (hbt.mono Q5.out.size)
  have B55' : Hid (Blk w5' x5 (rsC S d) 31) := B55.out.below hbt B55.out.lt
  have B65' : Hid (Blk w5' x6 [.int .i64 2, .int .u8 (ky : Int), .int .u8 (no : Int), .slice p m q, .slice p' m' q', .int .u16 (tu : Int), .bool true] 37) := B65.out.below hbt B65.out.lt
  have B85' : Hid (Blk w5' x8 [.bool false, .slice none 0 0, .slice none 0 0, .int .u64 0, .bool false, .bool false] 31) := B85.out.below hbt B85.out.lt
  have K5' : Hid (BA (Off A x8) w5' (some ⟨g2, 1, none⟩) 31 31 KY) := K5.out.below' hbt
  have N5' : Hid (BA (Off A x8) w5' a3 12 c3 NN) := N5.out.below' hbt
  have R5' : Hid (RS (Off A x8) w5' S d) := R5.out.grow hbt
  have Pb' : Hid (BA (Off A x8) w5' p m q bs) := Pb.out.below' hbt
  have Pl' : Hid (BA (Off A x8) w5' al ml cl ll) := Pl.out.below' hbt
  have Pt' : Hid (BA (Off A x8) w5' at' ml ct lt) := ot.ba.mono' fun j _ hj => A5.out j hj
  have SE5' : Hid (Se U w5' r S M) := SE5.out.grow hbt
  have A5' : Hid (∀ j, w5'.heap.size ≤ j → Off A x8 j) := fun j hj => A5.out j (Nat.le_trans hbt.size hj)
  have c63' : w5'.cell? ⟨x6, 3, none⟩ = some (.slice p m q) := B65'.out.cell 3
  have l65' := B65'.out.lt
  clear Q5 B55 B65 B85 K5 N5 R5 Pb Pl Pt SE5 A5 KN5 hbt ot c60 c63 c64 c65 l65
  obtain ⟨S', L, cd, hNx, CR, CP⟩ := opens2 OK5.out SZ5.out KY NN bs lt 31 KL.out (by omega) N5'.out.1.len
  have HNX : Hid (Nx S S') := hNx
  have HCP : Hid _ := CP
  clear CP hNx
  have CR5 := CR w5' (Off A x8) d _ _ _ _ _ _ _ _ _ _ A5'.out R5'.out K5'.out.1 N5'.out.1 Pb'.out.1 Pt'.out.1 (by omega) (by omega)
  clear CR
  go_wp2_with ((with_reducible refine at_ld 31 ?_); (refine ld 31 (.tmp 5) 6 sizeRS _ Tryz.underlying31 rfl x5 0 (rsC S d) rfl B55'.out.whole rfl ?_))
  refine CR5.mono ?_
  rintro e w6 ⟨d', a6, m6, c6, rfl, r6, b6, hb6⟩
  have B66 := B65'.out.below hb6 B65'.out.lt
  clear CR5 c63' l65'
  go_upto_region 18 with ((with_reducible refine at_st 31 ?_); (refine st' 31 (.tmp 19) (.tmp 105) 6 sizeRS w6.heap.size 0 (rsC S' d') rfl (rsC_one S' d') ((Blk.new w6 #[.bool false, .slice none 0 0, .slice none 0 0, .int .u64 0, .bool false, .bool false] 31).there 0 6 (by simp)) rfl rfl ?_); intro w7 hw7; have BX : Hid (Blk w7 w6.heap.size (rsC S' d') 31) := (by rw [hw7]; exact (Blk.new w6 _ 31).setsW _ rfl); have KX : Hid (Below w6.heap.size w6 w7) := (by rw [hw7]; exact Kp.new (below_alloc w6 (.cells #[.bool false, .slice none 0 0, .slice none 0 0, .int .u64 0, .bool false, .bool false] 31)) (Kp.sets _ w6.heap.size _ 0) fun j hj => by omega); clear hw7)
  obtain ⟨xq, hxq⟩ : ∃ x, x = w6.heap.size := ⟨_, rfl⟩
  rw [← hxq] at BX ⊢
  have hq6 : x8 < w6.heap.size := (B85'.out.below hb6 B85'.out.lt).lt
  have hxq8 : x8 < xq := by omega
  have h57 : Below w5'.heap.size w5' w7 := hb6.trans (KX.out.mono hb6.size)
  have Q7 : Hid (Below w.heap.size w w7) := Q5'.out.trans (h57.mono Q5'.out.size)
  have B67 := B66.below KX.out B66.lt
  have B87 : Hid (Blk w7 x8 [.bool false, .slice none 0 0, .slice none 0 0, .int .u64 0, .bool false, .bool false] 31) := B85'.out.below h57 B85'.out.lt
  have R7 : Hid (RS (Off A x8) w7 S' d') := r6.grow KX.out
  have X7 : Hid (BA (Off A x8) w7 a6 m6 c6 L) := b6.below' KX.out
  have L7 : Hid (BA (Off A x8) w7 al ml cl ll) := Pl'.out.below' h57
  have NUQ : ∀ j, Off A x8 j → ¬ U j := NU5.out
  have CP7 := HCP.out w7 U r M _ _ _ _ _ _ _ _ _ _ (SE5'.out.grow h57) (K5'.out.below' h57).1 (N5'.out.below' h57).1 (Pb'.out.below' h57).1 (Pt'.out.below' h57).1 (by omega) (by omega)
  have c63 : w7.cell? ⟨x6, 3, none⟩ = some (.slice p m q) := B67.cell 3
  have c64 : w7.cell? ⟨x6, 4, none⟩ = some (.slice p' m' q') := B67.cell 4
  have l67 := B67.lt
  clear HCP hb6 h57 r6 b6 B66 B67 B65' B55' B85' K5' N5' R5' Pb' Pt' Pl' SE5' hxq hq6
  go_wp2_with fail
  refine CP7.mono ?_
  rintro e w8 ⟨a8, m8, c8, rfl, b8, s8, k8⟩
  have hw7 := Q7.out.size
  have NU : ∀ j, w.heap.size ≤ j → ¬ U j := fun j hj hu => by have := HU.out j hu; omega
  have B88 : Hid (Blk w8 x8 [.bool false, .slice none 0 0, .slice none 0 0, .int .u64 0, .bool false, .bool false] 31) := k8.blk B87.out (NU _ (by omega))
  have BQ8 : Hid (Blk w8 xq (rsC S' d') 31) := k8.blk BX.out (NU _ (by omega))
  have R8 : Hid (RS (Off A x8) w8 S' d') := R7.out.keep k8.size fun j hj ha => k8.block j hj (NUQ j ha)
  have X8 : Hid (BA (Off A x8) w8 a6 m6 c6 L) := X7.out.kp k8 NUQ
  have L8 : Hid (BA (Off A x8) w8 al ml cl ll) := L7.out.kp k8 NUQ
  have h87 := B87.out.lt
  have Y8 : Hid (BA (Off A x8) w8 a8 m8 c8 L) := b8.mono' fun j _ hj => ⟨HAA.out j (by omega), by omega⟩
  have S8 : Hid (Se U w8 r S' M) := s8
  have KW : Hid (Kp U w w8) := (Kp.of_below Q7.out).trans k8
  have NU8 : Hid (¬ U x8) := NU _ (by omega)
  clear CP7 c63 c64 l67 B87 BX R7 X7 L7 b8 s8 k8 NU
  go_wp2_with fail
  refine regionG (S := Kp (fun j => j = x8) w8) (by kernel_rfl) (Kp.of_below (Below.refl _ w8).drew) ?_
  refine takeG 0 (some 118) ((.agg (rsC S' d').toArray)) rfl rfl (by kernel_rfl) (by kernel_rfl) (by kernel_rfl) (fun _ _ _ h => h) (ans_row 31 (.tmp 19) _ 6 rfl (by rfl) xq 0 rfl (rsC S' d') (fun u hu => (hu.blk BQ8.out (by omega)).whole) Tryz.underlying31 rfl rfl sizeRS) ?_
  simp only [Act.put, List.setIfInBounds_toArray, List.set_cons_zero, List.set_cons_succ]
  refine takeG 1 (some 119) (.slice al ml cl) rfl rfl (by kernel_rfl) (by kernel_rfl) (by kernel_rfl) (fun _ _ _ h => h) (ans_plain (by rfl) (fun w _ => rfl)) ?_
  simp only [Act.put, List.setIfInBounds_toArray, List.set_cons_zero, List.set_cons_succ]
  refine takeG 2 (some 120) (.slice a6 m6 c6) rfl rfl (by kernel_rfl) (by kernel_rfl) (by kernel_rfl) (fun _ _ _ h => h) (ans_plain (by rfl) (fun w _ => rfl)) ?_
  simp only [Act.put, List.setIfInBounds_toArray, List.set_cons_zero, List.set_cons_succ]
  refine takeG 3 (some 121) (.slice a8 m8 c8) rfl rfl (by kernel_rfl) (by kernel_rfl) (by kernel_rfl) (fun _ _ _ h => h) (ans_plain (by rfl) (fun w _ => rfl)) ?_
  simp only [Act.put, List.setIfInBounds_toArray, List.set_cons_zero, List.set_cons_succ]
  refine callG 4 (some 122) 20 #[.tmp 120, .tmp 121] #[32, 32] #[.slice a6 m6 c6, .slice a8 m8 c8] rfl rfl rfl (by rfl) (by rfl) (by kernel_rfl) Tryz.call20 fun u1 hg1 hs1 => ?_
  have CS1 := sameD u1 (X8.out.kp hs1 fun j hj e => hj.2 e).1 (Y8.out.kp hs1 fun j hj e => hj.2 e).1
  rw [decide_eq_true rfl] at CS1
  refine CS1.mono ?_
  rintro _ u2 ⟨rfl, hb2⟩
  refine ⟨_, rfl, hs1.trans (Kp.of_below hb2), ?_⟩
  simp only [Act.put, List.setIfInBounds_toArray, List.set_cons_zero, List.set_cons_succ]
  clear CS1
  refine takeG 5 (some 123) (.bool true) rfl rfl (by kernel_rfl) (by kernel_rfl) (by kernel_rfl) (fun _ _ _ h => h) (ans_plain (by rfl) (fun w _ => rfl)) ?_
  simp only [Act.put, List.setIfInBounds_toArray, List.set_cons_zero, List.set_cons_succ]
  refine takeG 6 (some 124) (.int .i64 cd) rfl rfl (by kernel_rfl) (by kernel_rfl) (by kernel_rfl) (fun _ _ _ h => h) (ans_plain (by rfl) (fun w _ => rfl)) ?_
  simp only [Act.put, List.setIfInBounds_toArray, List.set_cons_zero, List.set_cons_succ]
  refine takeG 7 (some 125) (.int .i64 cd) rfl rfl (by kernel_rfl) (by kernel_rfl) (by kernel_rfl) (fun _ _ _ h => h) (ans_plain (by rfl) (fun w _ => rfl)) ?_
  simp only [Act.put, List.setIfInBounds_toArray, List.set_cons_zero, List.set_cons_succ]
  refine takeG 8 (some 126) (.bool true) rfl rfl (by kernel_rfl) (by kernel_rfl) (by kernel_rfl) (fun _ _ _ h => h) (ans_plain (by rfl) (fun w _ => by unfold execOp; go_simp)) ?_
  simp only [Act.put, List.setIfInBounds_toArray, List.set_cons_zero, List.set_cons_succ]
  refine takeG 9 (some 127) (.bool true) rfl rfl (by kernel_rfl) (by kernel_rfl) (by kernel_rfl) (fun _ _ _ h => h) (ans_plain (by rfl) (fun w _ => by unfold execOp; go_simp)) ?_
  simp only [Act.put, List.setIfInBounds_toArray, List.set_cons_zero, List.set_cons_succ]
  refine oneG 10 (by kernel_rfl) fun u3 hg3 hs3 => ?_
  have B83 : Blk u3 x8 [.bool false, .slice none 0 0, .slice none 0 0, .int .u64 0, .bool false, .bool false] 31 := ((B88.out.below (Grows.ofDrew hg1) B88.out.lt).below hb2 (B88.out.below (Grows.ofDrew hg1) B88.out.lt).lt).grows hg3
  refine opStR 10 31 (.tmp 8) (.tmp 118) 6 rfl rfl rfl rfl x8 [.bool false, .slice none 0 0, .slice none 0 0, .int .u64 0, .bool false, .bool false] (rsC S' d') 31 B83 rfl rfl (rsC_one S' d') sizeRS rfl rfl fun u4 B84 k4 => ?_
  refine ⟨hs3.trans k4, ?_⟩
  refine takeG 11 (some 9) (.slice al ml cl) rfl rfl (by kernel_rfl) (by kernel_rfl) (by kernel_rfl) (fun _ _ _ h => h) (ans_plain (by rfl) (fun w _ => rfl)) ?_
  simp only [Act.put, List.setIfInBounds_toArray, List.set_cons_zero, List.set_cons_succ]
  refine takeG 12 (some 10) (.bool true) rfl rfl (by kernel_rfl) (by kernel_rfl) (by kernel_rfl) (fun _ _ _ h => h) (ans_plain (by rfl) (fun w _ => rfl)) ?_
  simp only [Act.put, List.setIfInBounds_toArray, List.set_cons_zero, List.set_cons_succ]
  refine doneG (by kernel_rfl) fun w9 hg9 hs9 => ?_
  have B9 : Hid (Blk w9 x8 (rsC S' d') 31) := B84.grows hg9
  have K9 : Hid (Kp (fun j => j = x8) w8 w9) := hs9
  clear hg1 hs1 hb2 hg3 hs3 B83 B84 k4 hg9 hs9
  go_wp2_with fail
  refine bodyPost_ret (v := .tuple #[rsV S' d', .slice al ml cl, .bool true]) (resCTT12 Tryz.results8 _ _ x8 _ rfl (run_loadVar_row _ x8 31 31 _ (0, 0) _ B9.out Tryz.underlying31 rfl sizeRS) _ _ rfl rfl) rfl ?_
  have N9 : ∀ j, Off A x8 j → ¬ j = x8 := fun j hj => hj.2
  have RF : RS A w9 S' d' := (R8.out.keep K9.out.size fun j hj ha => K9.out.block j hj (N9 j ha)).mono fun j _ hj => hj.1
  have YF : BA A w9 al ml cl ll := (L8.out.kp K9.out N9).mono' fun j _ hj => hj.1
  have SF : Se U w9 r S' M := S8.out.kp K9.out fun j hj e => NU8.out (e ▸ hj)
  have KF : Kp U w w9 := KW.out.later K9.out fun j hj => by omega
  exact ⟨S', d', al, ml, cl, ll, rfl, HNX.out, SF, RF, YF, zl, KF⟩

end Go.Proofs.YtjpejheipkfanaaGreatDoor
