/-
  Proved: for any acts and any list of rows of bytes the statement SealBlind of layer 12 answers true and leaves its arguments as they were. Conditions beside the statement's own: none; the card ties sha.roundConstants to the pruned copy of the program's text.
-/
import Derived.Test.YtjpejheipkfanaaDoorRows
import Derived.Test.YtjpejheipkfanaaDoorCards
import Derived.Test.YtjpejheipkfanaaDoorTie
import Derived.Test.YtjpejheipkfanaaDoorG22
import Derived.Below
import Derived.Deep.DeepCutAuto
import Derived.Deep.CutBlock
import Derived.ChangeOld
import Derived.Deep.DeepHandedRow
import Derived.Lib.LaidTab
namespace Go.Proofs.YtjpejheipkfanaaDoor
namespace SealBlindLaw
open Go.ChangeShapes Go.WideShapes Go.ChangeAt Go.RowKit
open Go.ChangeMaps (open_string shut_string)
set_option linter.unusedVariables false

theorem own : ownKnob Tryd.prog.godebug = none := by kernel_rfl
theorem laidOut : laidOutB Tryd.prog = true := by kernel_rfl
theorem gTab : Tryd.prog.globalNamed "deedbox/sha.roundConstants" = some 0 := by kernel_rfl
theorem gTabType : (Tryd.prog.globals[0]?).map (·.type) = some 144 := by kernel_rfl
theorem cellsT : Tryd.prog.cellsOf 144 = 64 := by kernel_rfl
theorem cellsE : Tryd.prog.cellsOf 33 = 1 := by kernel_rfl

/-- What the row's list gives: the constants lie in their variable. -/
theorem table {W : World} (h : laidMetH Tryd.prog Rows.sealBlindRow.laid W) : Lib.TabIs Tryd.prog W "deedbox/sha.roundConstants" .u32 (sKs.map fun x => (x.toNat : Int)) :=
  Lib.tabIs_of_head (rest := []) gTab gTabType Tryd.underlying144 Tryd.underlying33 cellsE cellsT h
theorem kon {W : World} (h : laidMetH Tryd.prog Rows.sealBlindRow.laid W) : Kon W := fun j v hv => by
  have hj : j < sKs.length := by have := (List.getElem?_eq_some_iff.1 hv).1; rwa [ws_length] at this
  have hc := (table h).cell gTab j (by rw [List.length_map]; exact hj)
  rw [Nat.zero_add, hc, ← hv]
  simp [ws, hj]

set_option maxRecDepth 100000 in
set_option maxHeartbeats 4000000 in
theorem walk (a0 : Option Addr) (len0 cap0 : Nat) (l0 : List Op12) (a1 : Option Addr) (len1 cap1 : Nat) (l1 : List (List UInt8)) (w : World) (hK : Kon w) (w0 : Acts12 w a0 len0 cap0 l0) (w1 : Bss w a1 len1 cap1 l1) :
    Calls Tryd.prog 4 #[.slice a0 len0 cap0, .slice a1 len1 cap1] w fun e w' => e = .returned (.bool true) ∧ Below w.heap.size w w' := by
  have HW : Hid (Acts12 w a0 len0 cap0 l0) := w0
  have HO : Hid (Bss w a1 len1 cap1 l1) := w1
  have hm0 := Sl.cap w0
  have hl0 : l0.length = len0 := Sl.len w0
  clear w0 w1 hK
  go_enter Tryd.func4, Tryd.ntmps4
  go_wp2_with fail
  refine (lLight12 w HW.out 40 (by omega) (by omega)).mono ?_
  rintro e u1 ⟨v, rfl, hv, rfl⟩
  cases v with
  | false =>
    go_wp2_with fail
    refine (lWorks12 w).mono ?_
    rintro e wz ⟨rfl, hbz⟩
    go_wp2_with fail
    go_ret
    exact ⟨rfl, hbz⟩
  | true =>
    obtain ⟨hn0, hv0⟩ := hv rfl
    have HV : Hid (∀ o ∈ l0, o.beside.length ≤ 60 ∧ o.text.length ≤ 60) := hv0
    have hn0' : len0 ≤ 40 := by omega
    clear hv hv0 hn0
    go_wp2_with fail
    refine (lShort w HO.out).mono ?_
    rintro e u1 ⟨q1, rfl, rfl, h1⟩
    rcases h1 with rfl | ⟨rfl, hn1, ht1⟩
    · go_wp2_with fail
      refine (lWorks12 w).mono ?_
      rintro e wz ⟨rfl, hbz⟩
      go_wp2_with fail
      go_ret
      exact ⟨rfl, hbz⟩
    go_wp2_with fail
    refine (oSNew true w).mono ?_
    rintro e v1 ⟨r1, U1, M1, rfl, hs1, hU1, hb1⟩
    have T1 := StaS.first (Below.refl _ w) hs1 hU1 hb1
    clear hs1 hU1 hb1
    go_wp2_with fail
    refine (oSNew true v1).mono ?_
    rintro e v2 ⟨r2, U2, M2, rfl, hs2, hU2, hb2⟩
    have T2 : Hid (BlI w v2 r1 U1 (SeaS.new true) M1 r2 U2 (SeaS.new true) M2 0) := ⟨TwoS.first T1 hs2 hU2 hb2, ⟨rfl, rfl, rfl, rfl⟩, by simp [SeaS.new], by simp [SeaS.new]⟩
    clear T1 hs2 hU2 hb2
    go_wp2_with fail
    go_loopw [7] (fun i wr => ∃ (k : Nat) (S1 S2 : SeaS), k ≤ len0 ∧ i = .int .i64 (k : Int) ∧ Hid (BlI w wr r1 U1 S1 M1 r2 U2 S2 M2 (3 * k))) (fun i _ => len0 - (intOf i).toNat)
    case atStart => exact ⟨0, _, _, Nat.zero_le _, rfl, T2.out⟩
    case round =>
      clear T2
      obtain ⟨k, S1, S2, hk, rfl, HI⟩ := hrel
      by_cases hlt : k < len0
      · have i0 : (k : Int) < (len0 : Int) := by omega
        obtain ⟨x, hx⟩ : ∃ x, l0[k]? = some x := ⟨_, List.getElem?_eq_getElem (by rw [hl0]; exact hlt)⟩
        have QR : Hid (Below w.heap.size w wr) := HI.out.two.a.bel
        obtain ⟨b, o, y, n, z, y', n', z', rfl, hlb, hrg, hC3, hC4, hfx⟩ := ActsA.at HW.out QR.out hx
        have hvx := HV.out x (List.mem_of_getElem? hx)
        have hn60 : n ≤ 60 := by rw [← hC3.1.len]; exact hvx.1
        have hn60' : n' ≤ 60 := by rw [← hC4.1.len]; exact hvx.2
        have htl : x.text.length = n' := hC4.1.len
        have BY : Hid (BA (fun j => ¬ (U1 j ∨ U2 j)) wr y n z x.beside) := HI.out.arg hC3
        have BT : Hid (BA (fun j => ¬ (U1 j ∨ U2 j)) wr y' n' z' x.text) := HI.out.arg hC4
        have hxk : x.key ≤ 255 := hfx.2.1
        have hxn : x.nonce ≤ 255 := hfx.2.2.1
        have c0 : wr.cell? ⟨b, o + k * 7, none⟩ = some (.int .i64 x.kind) := hrg 0 _ rfl
        have c1 : wr.cell? ⟨b, o + k * 7 + 1, none⟩ = some (.int .u8 (x.key : Int)) := hrg 1 _ rfl
        have c2 : wr.cell? ⟨b, o + k * 7 + 2, none⟩ = some (.int .u8 (x.nonce : Int)) := hrg 2 _ rfl
        have c3 : wr.cell? ⟨b, o + k * 7 + 3, none⟩ = some (.slice y n z) := hrg 3 _ rfl
        have c4 : wr.cell? ⟨b, o + k * 7 + 4, none⟩ = some (.slice y' n' z') := hrg 4 _ rfl
        have c5 : wr.cell? ⟨b, o + k * 7 + 5, none⟩ = some (.int .u16 (x.turn : Int)) := hrg 5 _ rfl
        have c6 : wr.cell? ⟨b, o + k * 7 + 6, none⟩ = some (.bool x.short) := hrg 6 _ rfl
        clear hx hrg hC3 hC4 hfx hvx
        obtain ⟨kd, ke, no, be, te, tu, sh⟩ := x
        dsimp only at *
        have B8 := Blk.new wr #[.int .i64 kd, .int .u8 (ke : Int), .int .u8 (no : Int), .slice y n z, .slice y' n' z', .int .u16 (tu : Int), .bool sh] 25
        have q8 : Below wr.heap.size wr (wr.alloc (.cells #[.int .i64 kd, .int .u8 (ke : Int), .int .u8 (no : Int), .slice y n z, .slice y' n' z', .int .u16 (tu : Int), .bool sh] 25)) := below_alloc wr _
        go_upto_region 11 with fail
        obtain ⟨x8, hx8⟩ : ∃ x, x = wr.heap.size := ⟨_, rfl⟩
        rw [← hx8] at B8 ⊢
        have hxw : wr.heap.size ≤ x8 := by omega
        have NX8 : ¬ (U1 x8 ∨ U2 x8) := fun hu => by have := HI.out.lt x8 hu; omega
        clear hx8 c0 c1 c2 c3 c4 c5 c6
        generalize wr.alloc (.cells #[.int .i64 kd, .int .u8 (ke : Int), .int .u8 (no : Int), .slice y n z, .slice y' n' z', .int .u16 (tu : Int), .bool sh] 25) = v3 at *
        have c4 : v3.cell? ⟨x8, 4, none⟩ = some (.slice y' n' z') := B8.cell 4
        have l8 := B8.lt
        have QV : Hid (Below w.heap.size w v3) := QR.out.trans (q8.mono QR.out.size)
        have H3 : Hid (BlI w v3 r1 U1 S1 M1 r2 U2 S2 M2 (3 * k)) := HI.out.grow q8
        have BY3 : Hid (BA (fun j => ¬ (U1 j ∨ U2 j)) v3 y n z be) := BY.out.below' q8
        have BT3 : Hid (BA (fun j => ¬ (U1 j ∨ U2 j)) v3 y' n' z' te) := BT.out.below' q8
        have HB8 : Hid (Blk v3 x8 [.int .i64 kd, .int .u8 (ke : Int), .int .u8 (no : Int), .slice y n z, .slice y' n' z', .int .u16 (tu : Int), .bool sh] 25) := B8
        clear HI BY BT q8 QR B8
        go_upto_block 2 with (at_make; refine wpList_mkn _ rfl _ _ rfl v3.heap.size n' _ rfl rfl rfl (by omega) (Nat.le_refl _) ?_; intro g w1 hg hgl hown hbel)
        clear c4 l8
        go_cut [10] from 33 to 138 (fun _ wx => ∃ lt : List UInt8, Hid (lt.length = n' ∧ Own wx v3.heap.size (.slice (some ⟨g, 0, none⟩) n' n') lt ∧ Below v3.heap.size v3 wx))
        case first =>
          go_wp2_with fail
          go_loopw [10] (fun i vr => ∃ (j : Nat) (lt : List UInt8), j ≤ n' ∧ i = .int .i64 (j : Int) ∧ Hid (lt.length = n' ∧ Own vr v3.heap.size (.slice (some ⟨g, 0, none⟩) n' n') lt ∧ Below v3.heap.size v3 vr)) (fun i _ => n' - (intOf i).toNat)
          case atStart => exact ⟨0, _, Nat.zero_le _, rfl, by simp, hown, hbel⟩
          case round =>
            clear hown hbel hgl
            obtain ⟨j, lt, hj, rfl, HT⟩ := hrel
            have QW : Hid (Below w.heap.size w wr) := QV.out.trans (HT.out.2.2.mono QV.out.size)
            by_cases hj1 : j < n'
            · have i1 : (j : Int) < (n' : Int) := by omega
              by_cases hk1 : k < len1
              · have i2 : (k : Int) < (len1 : Int) := by omega
                obtain ⟨bo, oo, rfl, hbo, hrow⟩ := HO.out.at (by omega)
                obtain ⟨pr, mr, qr, cr, br⟩ := hrow k hk1
                have d1 : wr.cell? ⟨bo, oo + k, none⟩ = some (.slice pr mr qr) := by rw [QW.out.cell (p := ⟨bo, oo + k, none⟩) hbo]; exact cr
                clear hrow cr
                by_cases hj2 : j < mr
                · have i3 : (j : Int) < (mr : Int) := by omega
                  obtain ⟨bq, oq, rfl, hbr, hcr⟩ := br.at (by omega)
                  obtain ⟨zz, hzz⟩ : ∃ zz : UInt8, zz = (l1.getD k []).getD j 0 := ⟨_, rfl⟩
                  have d2 : wr.cell? ⟨bq, oq + j, none⟩ = some (.int .u8 (zz.toNat : Int)) := by rw [QW.out.cell (p := ⟨bq, oq + j, none⟩) hbr, hzz]; exact hcr j hj2
                  obtain ⟨v0, d3⟩ := HT.out.2.1.cell HT.out.1 j (by omega)
                  have d4 := HT.out.2.1.free HT.out.1 j
                  have HN : Hid ((lt.set j zz).length = n' ∧ Own (wr.setCell ⟨g, j, none⟩ (.int .u8 (zz.toNat : Int))) v3.heap.size (.slice (some ⟨g, 0, none⟩) n' n') (lt.set j zz) ∧ Below v3.heap.size v3 (wr.setCell ⟨g, j, none⟩ (.int .u8 (zz.toNat : Int)))) := ⟨by rw [List.length_set]; exact HT.out.1, HT.out.2.1.set HT.out.1 j zz, HT.out.2.2.setCell (p := ⟨g, j, none⟩) hg _⟩
                  clear hcr br hzz HT
                  go_wp2_with fail
                  go_roundw
                  case rel => exact ⟨j + 1, lt.set j zz, by omega, by go_num, HN.out⟩
                  case measure => simp [intOf]; omega
                · have i3 : ¬ (j : Int) < (mr : Int) := by omega
                  go_wp2_with fail
                  go_meet
                  case rel => exact ⟨lt, HT.out⟩
              · have i2 : ¬ (k : Int) < (len1 : Int) := by omega
                go_wp2_with fail
                go_meet
                case rel => exact ⟨lt, HT.out⟩
            · have i1 : ¬ (j : Int) < (n' : Int) := by omega
              go_wp2_with fail
              go_meet
              case rel => exact ⟨lt, HT.out⟩
        case rest =>
          obtain ⟨lt, HT⟩ := hcut
          clear hown hbel hgl
          have q3c : Below v3.heap.size v3 wc := HT.out.2.2
          have H4 : Hid (BlI w wc r1 U1 S1 M1 r2 U2 S2 M2 (3 * k)) := H3.out.grow q3c
          have Y4 : Hid (BA (fun j => ¬ (U1 j ∨ U2 j)) wc y n z be) := BY3.out.below' q3c
          have X4 : Hid (BA (fun j => ¬ (U1 j ∨ U2 j)) wc y' n' z' te) := BT3.out.below' q3c
          have Z4 : Hid (BA (fun j => ¬ (U1 j ∨ U2 j)) wc (some ⟨g, 0, none⟩) n' n' lt) := HT.out.2.1.ba.mono' fun j _ hj hu => by have := H3.out.lt j hu; omega
          have B4 : Hid (Blk wc x8 [.int .i64 kd, .int .u8 (ke : Int), .int .u8 (no : Int), .slice y n z, .slice y' n' z', .int .u16 (tu : Int), .bool sh] 25) := HB8.out.below q3c HB8.out.lt
          have htl2 : lt.length = n' := HT.out.1
          have c2 : wc.cell? ⟨x8, 2, none⟩ = some (.int .u8 (no : Int)) := B4.out.cell 2
          have l8 := B4.out.lt
          clear HT q3c H3 BY3 BT3 HB8 QV
          go_wp2_with fail
          refine (oSNonce wc no 1 (by omega) (by omega)).mono ?_
          rintro e v5 ⟨an, mn, cn, rfl, on, hbn⟩
          have ln := on.toBs.len
          rw [nonL_length] at ln
          subst ln
          have NB : Hid (BA (fun j => ¬ (U1 j ∨ U2 j)) v5 an 12 cn (nonL no 1)) := on.no H4.out.lt
          have H5 : Hid (BlI w v5 r1 U1 S1 M1 r2 U2 S2 M2 (3 * k)) := H4.out.grow hbn
          have Y5 : Hid (BA (fun j => ¬ (U1 j ∨ U2 j)) v5 y n z be) := Y4.out.below' hbn
          have X5 : Hid (BA (fun j => ¬ (U1 j ∨ U2 j)) v5 y' n' z' te) := X4.out.below' hbn
          have Z5 : Hid (BA (fun j => ¬ (U1 j ∨ U2 j)) v5 (some ⟨g, 0, none⟩) n' n' lt) := Z4.out.below' hbn
          have B5 : Hid (Blk v5 x8 [.int .i64 kd, .int .u8 (ke : Int), .int .u8 (no : Int), .slice y n z, .slice y' n' z', .int .u16 (tu : Int), .bool sh] 25) := B4.out.below hbn B4.out.lt
          have HT5 : Hid (TwoS w v5 r1 U1 S1 M1 r2 U2 S2 M2) := H5.out.two
          have LT5 : Hid (∀ j, U1 j ∨ U2 j → j < v5.heap.size) := H5.out.lt
          have LK : Hid (Like S1 S2 ∧ S1.count + S1.book.length ≤ 3 * k ∧ S2.count + S2.book.length ≤ 3 * k) := ⟨H5.out.like, H5.out.n1, H5.out.n2⟩
          clear c2 l8 on hbn H4 Y4 X4 Z4 B4 H5
          go_wp2_with fail
          have G1 : ∀ u, Kp (fun j => U1 j ∨ U2 j) v5 u → u.cell? ⟨x8, 1, none⟩ = some (.int .u8 (ke : Int)) := fun u hu => (hu.blk B5.out NX8).cell 1
          have G3 : ∀ u, Kp (fun j => U1 j ∨ U2 j) v5 u → u.cell? ⟨x8, 3, none⟩ = some (.slice y n z) := fun u hu => (hu.blk B5.out NX8).cell 3
          have G4 : ∀ u, Kp (fun j => U1 j ∨ U2 j) v5 u → u.cell? ⟨x8, 4, none⟩ = some (.slice y' n' z') := fun u hu => (hu.blk B5.out NX8).cell 4
          refine regionG (S := Kp (fun j => U1 j ∨ U2 j) v5) (by kernel_rfl) (Kp.of_below (Below.refl _ v5).drew) ?_
          refine takeG 0 (some 83) (.pointer (some ⟨r1, 0, none⟩)) rfl rfl (by kernel_rfl) (by kernel_rfl) (by kernel_rfl) (fun _ _ _ h => h) (ans_plain (by rfl) (fun w _ => rfl)) ?_
          simp only [Act.put, List.setIfInBounds_toArray, List.set_cons_zero, List.set_cons_succ]
          refine takeG 1 (some 84) (.pointer (some ⟨x8, 1, none⟩)) rfl rfl (by kernel_rfl) (by kernel_rfl) (by kernel_rfl) (fun _ _ _ h => h) (ans_plain (by rfl) (fun w _ => by unfold execOp; go_simp)) ?_
          simp only [Act.put, List.setIfInBounds_toArray, List.set_cons_zero, List.set_cons_succ]
          refine takeG 2 (some 85) (.int .u8 (ke : Int)) rfl rfl (by kernel_rfl) (by kernel_rfl) (by kernel_rfl) (fun _ _ _ h => h) (ans_plain (by rfl) (fun w h => by have hc := G1 w h; unfold execOp; go_simp)) ?_
          simp only [Act.put, List.setIfInBounds_toArray, List.set_cons_zero, List.set_cons_succ]
          refine takeG 4 (some 87) (.slice an 12 cn) rfl rfl (by kernel_rfl) (by kernel_rfl) (by kernel_rfl) (fun _ _ _ h => h) (ans_plain (by rfl) (fun w _ => rfl)) ?_
          simp only [Act.put, List.setIfInBounds_toArray, List.set_cons_zero, List.set_cons_succ]
          refine takeG 5 (some 88) (.pointer (some ⟨x8, 3, none⟩)) rfl rfl (by kernel_rfl) (by kernel_rfl) (by kernel_rfl) (fun _ _ _ h => h) (ans_plain (by rfl) (fun w _ => by unfold execOp; go_simp)) ?_
          simp only [Act.put, List.setIfInBounds_toArray, List.set_cons_zero, List.set_cons_succ]
          refine takeG 6 (some 89) (.slice y n z) rfl rfl (by kernel_rfl) (by kernel_rfl) (by kernel_rfl) (fun _ _ _ h => h) (ans_plain (by rfl) (fun w h => by have hc := G3 w h; unfold execOp; go_simp)) ?_
          simp only [Act.put, List.setIfInBounds_toArray, List.set_cons_zero, List.set_cons_succ]
          refine takeG 7 (some 90) (.pointer (some ⟨x8, 4, none⟩)) rfl rfl (by kernel_rfl) (by kernel_rfl) (by kernel_rfl) (fun _ _ _ h => h) (ans_plain (by rfl) (fun w _ => by unfold execOp; go_simp)) ?_
          simp only [Act.put, List.setIfInBounds_toArray, List.set_cons_zero, List.set_cons_succ]
          refine takeG 8 (some 91) (.slice y' n' z') rfl rfl (by kernel_rfl) (by kernel_rfl) (by kernel_rfl) (fun _ _ _ h => h) (ans_plain (by rfl) (fun w h => by have hc := G4 w h; unfold execOp; go_simp)) ?_
          simp only [Act.put, List.setIfInBounds_toArray, List.set_cons_zero, List.set_cons_succ]
          refine callG 3 (some 86) 11 #[.tmp 85] #[5] #[.int .u8 (ke : Int)] rfl rfl rfl (by rfl) (by rfl) (by kernel_rfl) Tryd.call11 fun z1 hz1 hs1 => ?_
          refine (lKey12 z1 ke hxk).mono ?_
          rintro e z2 ⟨gk, rfl, _, ok2, hz2⟩
          have p1 : Below v5.heap.size v5 z1 := Grows.ofDrew hz1
          have p2 : Below v5.heap.size v5 z2 := p1.trans (hz2.mono p1.size)
          have KB := ok2.no (U := fun j => U1 j ∨ U2 j) (fun j hj => Nat.lt_of_lt_of_le (LT5.out j hj) p1.size)
          refine ⟨_, rfl, hs1.trans (Kp.of_below hz2), ?_⟩
          simp only [Act.put, List.setIfInBounds_toArray, List.set_cons_zero, List.set_cons_succ]
          refine callG 9 (some 92) 10 #[.tmp 83, .tmp 86, .tmp 87, .tmp 89, .tmp 91] #[29, 22, 22, 22, 22] #[.pointer (some ⟨r1, 0, none⟩), .slice (some ⟨gk, 0, none⟩) 32 32, .slice an 12 cn, .slice y n z, .slice y' n' z'] rfl rfl rfl (by rfl) (by rfl) (by kernel_rfl) Tryd.call10 fun z3 hz3 hs3 => ?_
          have p3 : Below v5.heap.size v5 z3 := p2.trans (Below.mono hz3 p2.size)
          have ST := HT5.out.grow p3
          have nn1 := LK.out.2.1
          have nn2 := LK.out.2.2
          have nu : ∀ (j : Nat), ¬ (U1 j ∨ U2 j) → ¬ U1 j := fun j hj hu => hj (Or.inl hu)
          refine (oSSeal z3 ST.a.se ST.a.ok ((KB.below' hz3).mono' fun j _ => nu j) ((NB.out.below' p3).mono' fun j _ => nu j) ((Y5.out.below' p3).mono' fun j _ => nu j) ((X5.out.below' p3).mono' fun j _ => nu j) (by omega) (by omega) (by omega)).mono ?_
          rintro e z4 ⟨aa, ma, ca, rfl, oA, seA, kpA⟩
          have kpF : Kp (fun j => U1 j ∨ U2 j) z3 z4 := kpA.mono fun j _ hj => Or.inl hj
          refine ⟨_, rfl, hs3.trans kpF, ?_⟩
          simp only [Act.put, List.setIfInBounds_toArray, List.set_cons_zero, List.set_cons_succ]
          refine takeG 10 (some 82) (.tuple #[.slice aa ma ca, .int .i64 0]) rfl rfl (by kernel_rfl) (by kernel_rfl) (by kernel_rfl) (fun _ _ _ h => h) (ans_plain (by rfl) (fun w _ => rfl)) ?_
          simp only [Act.put, List.setIfInBounds_toArray, List.set_cons_zero, List.set_cons_succ]
          refine takeG 11 (some 93) (.slice aa ma ca) rfl rfl (by kernel_rfl) (by kernel_rfl) (by kernel_rfl) (fun _ _ _ h => h) (ans_plain (by rfl) (fun w _ => by unfold execOp; go_simp)) ?_
          simp only [Act.put, List.setIfInBounds_toArray, List.set_cons_zero, List.set_cons_succ]
          refine takeG 12 (some 94) (.int .i64 0) rfl rfl (by kernel_rfl) (by kernel_rfl) (by kernel_rfl) (fun _ _ _ h => h) (ans_plain (by rfl) (fun w _ => by unfold execOp; go_simp)) ?_
          simp only [Act.put, List.setIfInBounds_toArray, List.set_cons_zero, List.set_cons_succ]
          refine takeG 13 (some 12) (.slice aa ma ca) rfl rfl (by kernel_rfl) (by kernel_rfl) (by kernel_rfl) (fun _ _ _ h => h) (ans_plain (by rfl) (fun w _ => rfl)) ?_
          simp only [Act.put, List.setIfInBounds_toArray, List.set_cons_zero, List.set_cons_succ]
          refine takeG 14 (some 13) (.int .i64 0) rfl rfl (by kernel_rfl) (by kernel_rfl) (by kernel_rfl) (fun _ _ _ h => h) (ans_plain (by rfl) (fun w _ => rfl)) ?_
          simp only [Act.put, List.setIfInBounds_toArray, List.set_cons_zero, List.set_cons_succ]
          refine doneG (by kernel_rfl) fun v7 hg9 hs9 => ?_
          have q49 : Below z4.heap.size z4 v7 := hg9
          have HT7 : Hid (TwoS w v7 r1 U1 (S1.seal (keyB ke) (nonL no 1) be te) M1 r2 U2 S2 M2) := (ST.left seA (ST.a.ok.seal (by omega) _ _ _ _) kpA).grow q49
          have k59 : Kp (fun j => U1 j ∨ U2 j) v5 v7 := hs9
          have LT7 : Hid (∀ j, U1 j ∨ U2 j → j < v7.heap.size) := fun j hj => Nat.lt_of_lt_of_le (LT5.out j hj) k59.size
          have NB7 : Hid (BA (fun j => ¬ (U1 j ∨ U2 j)) v7 an 12 cn (nonL no 1)) := NB.out.kp k59 fun j hj => hj
          have Y7 : Hid (BA (fun j => ¬ (U1 j ∨ U2 j)) v7 y n z be) := Y5.out.kp k59 fun j hj => hj
          have Z7 : Hid (BA (fun j => ¬ (U1 j ∨ U2 j)) v7 (some ⟨g, 0, none⟩) n' n' lt) := Z5.out.kp k59 fun j hj => hj
          have B7 : Hid (Blk v7 x8 [.int .i64 kd, .int .u8 (ke : Int), .int .u8 (no : Int), .slice y n z, .slice y' n' z', .int .u16 (tu : Int), .bool sh] 25) := k59.blk B5.out NX8
          have OA : Hid (BA (fun j => ¬ (U1 j ∨ U2 j)) v7 aa ma ca (S1.made (keyB ke) (nonL no 1) be te)) := (oA.ba.below' q49).mono' fun j _ hj hu => by have := LT5.out j hu; have := p3.size; omega
          clear G1 G3 G4 hz1 hs1 ok2 hz2 p1 p2 KB hz3 hs3 p3 ST nu oA seA kpA kpF hg9 hs9 q49 k59 NB Y5 X5 Z5 B5 LT5 HT5
          go_wp2_with fail
          have G1 : ∀ u, Kp (fun j => U1 j ∨ U2 j) v7 u → u.cell? ⟨x8, 1, none⟩ = some (.int .u8 (ke : Int)) := fun u hu => (hu.blk B7.out NX8).cell 1
          have G3 : ∀ u, Kp (fun j => U1 j ∨ U2 j) v7 u → u.cell? ⟨x8, 3, none⟩ = some (.slice y n z) := fun u hu => (hu.blk B7.out NX8).cell 3
          have G4 : ∀ u, Kp (fun j => U1 j ∨ U2 j) v7 u → u.cell? ⟨x8, 4, none⟩ = some (.slice y' n' z') := fun u hu => (hu.blk B7.out NX8).cell 4
          refine regionG (S := Kp (fun j => U1 j ∨ U2 j) v7) (by kernel_rfl) (Kp.of_below (Below.refl _ v7).drew) ?_
          refine takeG 0 (some 96) (.pointer (some ⟨r2, 0, none⟩)) rfl rfl (by kernel_rfl) (by kernel_rfl) (by kernel_rfl) (fun _ _ _ h => h) (ans_plain (by rfl) (fun w _ => rfl)) ?_
          simp only [Act.put, List.setIfInBounds_toArray, List.set_cons_zero, List.set_cons_succ]
          refine takeG 1 (some 97) (.pointer (some ⟨x8, 1, none⟩)) rfl rfl (by kernel_rfl) (by kernel_rfl) (by kernel_rfl) (fun _ _ _ h => h) (ans_plain (by rfl) (fun w _ => by unfold execOp; go_simp)) ?_
          simp only [Act.put, List.setIfInBounds_toArray, List.set_cons_zero, List.set_cons_succ]
          refine takeG 2 (some 98) (.int .u8 (ke : Int)) rfl rfl (by kernel_rfl) (by kernel_rfl) (by kernel_rfl) (fun _ _ _ h => h) (ans_plain (by rfl) (fun w h => by have hc := G1 w h; unfold execOp; go_simp)) ?_
          simp only [Act.put, List.setIfInBounds_toArray, List.set_cons_zero, List.set_cons_succ]
          refine takeG 4 (some 100) (.slice an 12 cn) rfl rfl (by kernel_rfl) (by kernel_rfl) (by kernel_rfl) (fun _ _ _ h => h) (ans_plain (by rfl) (fun w _ => rfl)) ?_
          simp only [Act.put, List.setIfInBounds_toArray, List.set_cons_zero, List.set_cons_succ]
          refine takeG 5 (some 101) (.pointer (some ⟨x8, 3, none⟩)) rfl rfl (by kernel_rfl) (by kernel_rfl) (by kernel_rfl) (fun _ _ _ h => h) (ans_plain (by rfl) (fun w _ => by unfold execOp; go_simp)) ?_
          simp only [Act.put, List.setIfInBounds_toArray, List.set_cons_zero, List.set_cons_succ]
          refine takeG 6 (some 102) (.slice y n z) rfl rfl (by kernel_rfl) (by kernel_rfl) (by kernel_rfl) (fun _ _ _ h => h) (ans_plain (by rfl) (fun w h => by have hc := G3 w h; unfold execOp; go_simp)) ?_
          simp only [Act.put, List.setIfInBounds_toArray, List.set_cons_zero, List.set_cons_succ]
          refine takeG 7 (some 103) (.slice (some ⟨g, 0, none⟩) n' n') rfl rfl (by kernel_rfl) (by kernel_rfl) (by kernel_rfl) (fun _ _ _ h => h) (ans_plain (by rfl) (fun w _ => rfl)) ?_
          simp only [Act.put, List.setIfInBounds_toArray, List.set_cons_zero, List.set_cons_succ]
          refine callG 3 (some 99) 11 #[.tmp 98] #[5] #[.int .u8 (ke : Int)] rfl rfl rfl (by rfl) (by rfl) (by kernel_rfl) Tryd.call11 fun z1 hz1 hs1 => ?_
          refine (lKey12 z1 ke hxk).mono ?_
          rintro e z2 ⟨gk, rfl, _, ok2, hz2⟩
          have p1 : Below v7.heap.size v7 z1 := Grows.ofDrew hz1
          have p2 : Below v7.heap.size v7 z2 := p1.trans (hz2.mono p1.size)
          have KB := ok2.no (U := fun j => U1 j ∨ U2 j) (fun j hj => Nat.lt_of_lt_of_le (LT7.out j hj) p1.size)
          refine ⟨_, rfl, hs1.trans (Kp.of_below hz2), ?_⟩
          simp only [Act.put, List.setIfInBounds_toArray, List.set_cons_zero, List.set_cons_succ]
          refine callG 8 (some 104) 10 #[.tmp 96, .tmp 99, .tmp 100, .tmp 102, .tmp 103] #[29, 22, 22, 22, 22] #[.pointer (some ⟨r2, 0, none⟩), .slice (some ⟨gk, 0, none⟩) 32 32, .slice an 12 cn, .slice y n z, .slice (some ⟨g, 0, none⟩) n' n'] rfl rfl rfl (by rfl) (by rfl) (by kernel_rfl) Tryd.call10 fun z3 hz3 hs3 => ?_
          have p3 : Below v7.heap.size v7 z3 := p2.trans (Below.mono hz3 p2.size)
          have ST := HT7.out.grow p3
          have nn1 := LK.out.2.1
          have nn2 := LK.out.2.2
          have nu : ∀ (j : Nat), ¬ (U1 j ∨ U2 j) → ¬ U2 j := fun j hj hu => hj (Or.inr hu)
          refine (oSSeal z3 ST.b.se ST.b.ok ((KB.below' hz3).mono' fun j _ => nu j) ((NB7.out.below' p3).mono' fun j _ => nu j) ((Y7.out.below' p3).mono' fun j _ => nu j) ((Z7.out.below' p3).mono' fun j _ => nu j) (by omega) (by omega) (by omega)).mono ?_
          rintro e z4 ⟨ab, mb, cb, rfl, oA, seA, kpA⟩
          have kpF : Kp (fun j => U1 j ∨ U2 j) z3 z4 := kpA.mono fun j _ hj => Or.inr hj
          refine ⟨_, rfl, hs3.trans kpF, ?_⟩
          simp only [Act.put, List.setIfInBounds_toArray, List.set_cons_zero, List.set_cons_succ]
          refine takeG 9 (some 95) (.tuple #[.slice ab mb cb, .int .i64 0]) rfl rfl (by kernel_rfl) (by kernel_rfl) (by kernel_rfl) (fun _ _ _ h => h) (ans_plain (by rfl) (fun w _ => rfl)) ?_
          simp only [Act.put, List.setIfInBounds_toArray, List.set_cons_zero, List.set_cons_succ]
          refine takeG 10 (some 105) (.slice ab mb cb) rfl rfl (by kernel_rfl) (by kernel_rfl) (by kernel_rfl) (fun _ _ _ h => h) (ans_plain (by rfl) (fun w _ => by unfold execOp; go_simp)) ?_
          simp only [Act.put, List.setIfInBounds_toArray, List.set_cons_zero, List.set_cons_succ]
          refine takeG 11 (some 106) (.int .i64 0) rfl rfl (by kernel_rfl) (by kernel_rfl) (by kernel_rfl) (fun _ _ _ h => h) (ans_plain (by rfl) (fun w _ => by unfold execOp; go_simp)) ?_
          simp only [Act.put, List.setIfInBounds_toArray, List.set_cons_zero, List.set_cons_succ]
          refine takeG 12 (some 14) (.slice ab mb cb) rfl rfl (by kernel_rfl) (by kernel_rfl) (by kernel_rfl) (fun _ _ _ h => h) (ans_plain (by rfl) (fun w _ => rfl)) ?_
          simp only [Act.put, List.setIfInBounds_toArray, List.set_cons_zero, List.set_cons_succ]
          refine takeG 13 (some 15) (.int .i64 0) rfl rfl (by kernel_rfl) (by kernel_rfl) (by kernel_rfl) (fun _ _ _ h => h) (ans_plain (by rfl) (fun w _ => rfl)) ?_
          simp only [Act.put, List.setIfInBounds_toArray, List.set_cons_zero, List.set_cons_succ]
          refine doneG (by kernel_rfl) fun v9 hg9 hs9 => ?_
          have q49 : Below z4.heap.size z4 v9 := hg9
          have H9 : Hid (BlI w v9 r1 U1 (S1.seal (keyB ke) (nonL no 1) be te) M1 r2 U2 (S2.seal (keyB ke) (nonL no 1) be lt) M2 (3 * k + 2)) := ⟨(ST.right seA (ST.b.ok.seal (by omega) _ _ _ _) kpA).grow q49, LK.out.1.seal _ _ _ _ _, by have := S1.seal_count (keyB ke) (nonL no 1) be te; have := S1.seal_len (keyB ke) (nonL no 1) be te; omega, by have := S2.seal_count (keyB ke) (nonL no 1) be lt; have := S2.seal_len (keyB ke) (nonL no 1) be lt; omega⟩
          have OB : Hid (BA (fun j => ¬ (U1 j ∨ U2 j)) v9 ab mb cb (S2.made (keyB ke) (nonL no 1) be lt)) := (oA.ba.below' q49).mono' fun j _ hj hu => by have := LT7.out j hu; have := p3.size; omega
          have k79 : Kp (fun j => U1 j ∨ U2 j) v7 v9 := hs9
          have Y9 : Hid (BA (fun j => ¬ (U1 j ∨ U2 j)) v9 y n z be) := Y7.out.kp k79 fun j hj => hj
          have B9 : Hid (Blk v9 x8 [.int .i64 kd, .int .u8 (ke : Int), .int .u8 (no : Int), .slice y n z, .slice y' n' z', .int .u16 (tu : Int), .bool sh] 25) := k79.blk B7.out NX8
          have OA9 : Hid (BA (fun j => ¬ (U1 j ∨ U2 j)) v9 aa ma ca (S1.made (keyB ke) (nonL no 1) be te)) := OA.out.kp k79 fun j hj => hj
          clear G1 G3 G4 hz1 hs1 ok2 hz2 p1 p2 KB hz3 hs3 p3 ST nu oA seA kpA kpF hg9 hs9 q49 k79 NB7 Y7 Z7 B7 LT7 HT7 OA
          have HM : S1.made (keyB ke) (nonL no 1) be te = S2.made (keyB ke) (nonL no 1) be lt := LK.out.1.made _ _ _ _ _ (by omega)
          have CS : Calls Tryd.prog 15 #[.slice aa ma ca, .slice ab mb cb] v9 fun e w' => e = .returned (.bool true) ∧ v9 = w' := by
            have := oSame v9 OA9.out.1 OB.out.1
            rw [decide_eq_true HM] at this
            exact this
          clear HM OA9 OB LK
          generalize S1.seal (keyB ke) (nonL no 1) be te = T1 at *
          generalize S2.seal (keyB ke) (nonL no 1) be lt = T2 at *
          go_wp2_with fail
          refine CS.mono ?_
          rintro e u ⟨rfl, rfl⟩
          clear CS
          obtain ⟨m3, hm3⟩ : ∃ m3, m3 = k % 3 := ⟨_, rfl⟩
          have j1 : (k : Int).tmod 3 = (m3 : Int) := by rw [Int.tmod_eq_emod_of_nonneg (by omega)]; omega
          have j2 : (k : Int) % 3 = (m3 : Int) := by omega
          clear hm3
          go_wp2_with fail
          by_cases h3 : m3 = 2
          · subst h3
            have G1 : ∀ u, Kp (fun j => U1 j ∨ U2 j) v9 u → u.cell? ⟨x8, 1, none⟩ = some (.int .u8 (ke : Int)) := fun u hu => (hu.blk B9.out NX8).cell 1
            have G3 : ∀ u, Kp (fun j => U1 j ∨ U2 j) v9 u → u.cell? ⟨x8, 3, none⟩ = some (.slice y n z) := fun u hu => (hu.blk B9.out NX8).cell 3
            have CK : Hid (∀ u, Kp (fun j => U1 j ∨ U2 j) v9 u → Calls Tryd.prog 11 #[.int .u8 (ke : Int)] u fun e w' => ∃ v, e = .returned v ∧ KeyV (fun j => U1 j ∨ U2 j) ke v w' ∧ Below u.heap.size u w') := fun u hu => (lKey12 u ke hxk).mono fun e w' ⟨g, he, _, ho, hb⟩ => ⟨_, he, ⟨g, rfl, ho.no fun j hj => Nat.lt_of_lt_of_le (H9.out.lt j hj) hu.size⟩, hb⟩
            have htot : tot [be] ≤ 60000 := by have h1 := Y9.out.1.len; simp [tot]; omega
            have hF9 : ∀ j, U1 j ∨ U2 j → j < v9.heap.size := H9.out.lt
            refine regionG (S := Kp (fun j => U1 j ∨ U2 j) v9) (by kernel_rfl) (Kp.of_below (Below.refl _ v9).drew) ?_
            refine takeG 0 (some 116) (.int .i64 (k : Int)) rfl rfl (by kernel_rfl) (by kernel_rfl) (by kernel_rfl) (fun _ _ _ h => h) (ans_plain (by rfl) (fun w _ => rfl)) ?_
            simp only [Act.put, List.setIfInBounds_toArray, List.set_cons_zero, List.set_cons_succ]
            refine takeG 1 (some 117) (.int .i64 2) rfl rfl (by kernel_rfl) (by kernel_rfl) (by kernel_rfl) (fun _ _ _ h => h) (ans_plain (by rfl) (fun w _ => by unfold execOp; go_simp)) ?_
            simp only [Act.put, List.setIfInBounds_toArray, List.set_cons_zero, List.set_cons_succ]
            refine takeG 2 (some 118) (.bool true) rfl rfl (by kernel_rfl) (by kernel_rfl) (by kernel_rfl) (fun _ _ _ h => h) (ans_plain (by rfl) (fun w _ => by unfold execOp; go_simp)) ?_
            simp only [Act.put, List.setIfInBounds_toArray, List.set_cons_zero, List.set_cons_succ]
            refine takeG 3 (some 119) (.bool true) rfl rfl (by kernel_rfl) (by kernel_rfl) (by kernel_rfl) (fun _ _ _ h => h) (ans_plain (by rfl) (fun w _ => rfl)) ?_
            simp only [Act.put, List.setIfInBounds_toArray, List.set_cons_zero, List.set_cons_succ]
            refine takeG 4 (some 120) (.pointer (some ⟨r1, 0, none⟩)) rfl rfl (by kernel_rfl) (by kernel_rfl) (by kernel_rfl) (fun _ _ _ h => h) (ans_plain (by rfl) (fun w _ => rfl)) ?_
            simp only [Act.put, List.setIfInBounds_toArray, List.set_cons_zero, List.set_cons_succ]
            refine takeG 5 (some 121) (.pointer (some ⟨x8, 1, none⟩)) rfl rfl (by kernel_rfl) (by kernel_rfl) (by kernel_rfl) (fun _ _ _ h => h) (ans_plain (by rfl) (fun w _ => by unfold execOp; go_simp)) ?_
            simp only [Act.put, List.setIfInBounds_toArray, List.set_cons_zero, List.set_cons_succ]
            refine takeG 6 (some 122) (.int .u8 (ke : Int)) rfl rfl (by kernel_rfl) (by kernel_rfl) (by kernel_rfl) (fun _ _ _ h => h) (ans_plain (by rfl) (fun w h => by have hc := G1 w h; unfold execOp; go_simp)) ?_
            simp only [Act.put, List.setIfInBounds_toArray, List.set_cons_zero, List.set_cons_succ]
            refine takeG 8 (some 124) (.pointer (some ⟨x8, 3, none⟩)) rfl rfl (by kernel_rfl) (by kernel_rfl) (by kernel_rfl) (fun _ _ _ h => h) (ans_plain (by rfl) (fun w _ => by unfold execOp; go_simp)) ?_
            simp only [Act.put, List.setIfInBounds_toArray, List.set_cons_zero, List.set_cons_succ]
            refine takeG 9 (some 125) (.slice y n z) rfl rfl (by kernel_rfl) (by kernel_rfl) (by kernel_rfl) (fun _ _ _ h => h) (ans_plain (by rfl) (fun w h => by have hc := G3 w h; unfold execOp; go_simp)) ?_
            simp only [Act.put, List.setIfInBounds_toArray, List.set_cons_zero, List.set_cons_succ]
            refine takeG 12 (some 128) (.pointer (some ⟨r2, 0, none⟩)) rfl rfl (by kernel_rfl) (by kernel_rfl) (by kernel_rfl) (fun _ _ _ h => h) (ans_plain (by rfl) (fun w _ => rfl)) ?_
            simp only [Act.put, List.setIfInBounds_toArray, List.set_cons_zero, List.set_cons_succ]
            refine takeG 13 (some 129) (.pointer (some ⟨x8, 1, none⟩)) rfl rfl (by kernel_rfl) (by kernel_rfl) (by kernel_rfl) (fun _ _ _ h => h) (ans_plain (by rfl) (fun w _ => by unfold execOp; go_simp)) ?_
            simp only [Act.put, List.setIfInBounds_toArray, List.set_cons_zero, List.set_cons_succ]
            refine takeG 14 (some 130) (.int .u8 (ke : Int)) rfl rfl (by kernel_rfl) (by kernel_rfl) (by kernel_rfl) (fun _ _ _ h => h) (ans_plain (by rfl) (fun w h => by have hc := G1 w h; unfold execOp; go_simp)) ?_
            simp only [Act.put, List.setIfInBounds_toArray, List.set_cons_zero, List.set_cons_succ]
            refine takeG 16 (some 132) (.pointer (some ⟨x8, 3, none⟩)) rfl rfl (by kernel_rfl) (by kernel_rfl) (by kernel_rfl) (fun _ _ _ h => h) (ans_plain (by rfl) (fun w _ => by unfold execOp; go_simp)) ?_
            simp only [Act.put, List.setIfInBounds_toArray, List.set_cons_zero, List.set_cons_succ]
            refine takeG 17 (some 133) (.slice y n z) rfl rfl (by kernel_rfl) (by kernel_rfl) (by kernel_rfl) (fun _ _ _ h => h) (ans_plain (by rfl) (fun w h => by have hc := G3 w h; unfold execOp; go_simp)) ?_
            simp only [Act.put, List.setIfInBounds_toArray, List.set_cons_zero, List.set_cons_succ]
            refine fork3G 7 10 18 123 126 134 (KeyV (fun j => U1 j ∨ U2 j) ke) (OneK (fun j => U1 j ∨ U2 j) v9 y n z be) (OneK (fun j => U1 j ∨ U2 j) v9 y n z be) (by decide) (by decide) (by decide) (by decide) (by decide) (by decide) KeyV.grow OneK.grow OneK.grow (mkCallK 7 123 11 #[.tmp 122] #[5] #[.int .u8 (ke : Int)] (KeyV (fun j => U1 j ∨ U2 j) ke) rfl rfl rfl (by rfl) (by rfl) Tryd.call11 CK.out) (fun _ => (mkCallK 7 123 11 #[.tmp 122] #[5] #[.int .u8 (ke : Int)] (KeyV (fun j => U1 j ∨ U2 j) ke) rfl rfl rfl (by rfl) (by rfl) Tryd.call11 CK.out)) (fun _ => (mkCallK 7 123 11 #[.tmp 122] #[5] #[.int .u8 (ke : Int)] (KeyV (fun j => U1 j ∨ U2 j) ke) rfl rfl rfl (by rfl) (by rfl) Tryd.call11 CK.out)) (fun _ _ => (mkCallK 7 123 11 #[.tmp 122] #[5] #[.int .u8 (ke : Int)] (KeyV (fun j => U1 j ∨ U2 j) ke) rfl rfl rfl (by rfl) (by rfl) Tryd.call11 CK.out)) (mkOneK 10 126 (.tmp 125) be rfl rfl rfl (by rfl) y n z rfl Y9.out) (fun _ => (mkOneK 10 126 (.tmp 125) be rfl rfl rfl (by rfl) y n z rfl Y9.out)) (fun _ => (mkOneK 10 126 (.tmp 125) be rfl rfl rfl (by rfl) y n z rfl Y9.out)) (fun _ _ => (mkOneK 10 126 (.tmp 125) be rfl rfl rfl (by rfl) y n z rfl Y9.out)) (fun _ _ => (mkOneK 10 126 (.tmp 125) be rfl rfl rfl (by rfl) y n z rfl Y9.out)) (mkOneK 18 134 (.tmp 133) be rfl rfl rfl (by rfl) y n z rfl Y9.out) (fun _ => (mkOneK 18 134 (.tmp 133) be rfl rfl rfl (by rfl) y n z rfl Y9.out)) (fun _ => (mkOneK 18 134 (.tmp 133) be rfl rfl rfl (by rfl) y n z rfl Y9.out)) (fun _ _ => (mkCallK 7 123 11 #[.tmp 122] #[5] #[.int .u8 (ke : Int)] (KeyV (fun j => U1 j ∨ U2 j) ke) rfl rfl rfl (by rfl) (by rfl) Tryd.call11 CK.out)) (by kernel_rfl) (by kernel_rfl) (by kernel_rfl) (by kernel_rfl) (by kernel_rfl) (by kernel_rfl) (by kernel_rfl) (by kernel_rfl) ?_ ?_
            · intro kv ov u1 hA hB hg1 hs1
              simp only [Act.put, List.setIfInBounds_toArray, List.set_cons_zero, List.set_cons_succ]
              obtain ⟨gk, rfl, hkb⟩ := hA
              obtain ⟨po, rfl, hob⟩ := hB.bss
              have q1 : Below v9.heap.size v9 u1 := Grows.ofDrew hg1
              refine fork2G 11 18 (by kernel_rfl) (fun u2 hg2 hs2 => ?_) (fun u2 hg2 hs2 => ?_)
              · have q12 : Below u1.heap.size u1 u2 := hg2
                have q2 : Below v9.heap.size v9 u2 := q1.trans (q12.mono q1.size)
                refine opCallW 11 (some 127) 16 #[.tmp 120, .tmp 123, .tmp 126] #[29, 22, 40] #[.pointer (some ⟨r1, 0, none⟩), .slice (some ⟨gk, 0, none⟩) 32 32, .slice po 1 1] rfl rfl rfl (by rfl) (by rfl) Tryd.call16 ?_
                have ST := H9.out.grow q2
                refine (oSDeriveI u2 ST.two.a.se ST.two.a.ok ST.like.i (hkb.1.below q12 (Nat.le_refl _)) (hob.below q12 (Nat.le_refl _)) (by omega) (by omega) htot (by have := ST.n1; omega)).mono ?_
                rintro e ud ⟨ad, md, cd, rfl, od, sd, kd1⟩
                have TD := ST.two.left sd (ST.two.a.ok.derive (by have := ST.n1; omega) _ _) kd1
                have XD : BA (fun j => ¬ (U1 j ∨ U2 j)) ud ad md cd (noiseL (T1.num (keyB ke) (packL [be])) 32) := od.ba.mono' fun j _ hj hu => by have := ST.lt j hu; omega
                have kF : Kp (fun j => U1 j ∨ U2 j) u2 ud := kd1.mono fun j _ hj => Or.inl hj
                refine ⟨_, rfl, hs2.trans kF, ?_⟩
                simp only [Act.put, List.setIfInBounds_toArray, List.set_cons_zero, List.set_cons_succ]
                refine both2 15 18 131 134 (KeyV (fun j => U1 j ∨ U2 j) ke) (OneK (fun j => U1 j ∨ U2 j) v9 y n z be) (by decide) (by decide) KeyV.grow OneK.grow (mkCallK 15 131 11 #[.tmp 130] #[5] #[.int .u8 (ke : Int)] (KeyV (fun j => U1 j ∨ U2 j) ke) rfl rfl rfl (by rfl) (by rfl) Tryd.call11 CK.out) (fun _ => (mkCallK 15 131 11 #[.tmp 130] #[5] #[.int .u8 (ke : Int)] (KeyV (fun j => U1 j ∨ U2 j) ke) rfl rfl rfl (by rfl) (by rfl) Tryd.call11 CK.out)) (mkOneK 18 134 (.tmp 133) be rfl rfl rfl (by rfl) y n z rfl Y9.out) (fun _ => (mkOneK 18 134 (.tmp 133) be rfl rfl rfl (by rfl) y n z rfl Y9.out)) (by kernel_rfl) (by kernel_rfl) (by kernel_rfl) (fun kv2 xv u55 hA2 hC2 hg55 hs55 => ?_)
                simp only [Act.put, List.setIfInBounds_toArray, List.set_cons_zero, List.set_cons_succ]
                have q55 : Below ud.heap.size ud u55 := hg55
                have TD4 := TD.grow q55
                have XD4 := XD.below' q55
                obtain ⟨gk2, rfl, kb2⟩ := hA2
                obtain ⟨po2, rfl, ob2⟩ := hC2.bss
                refine callG 19 (some 135) 16 #[.tmp 128, .tmp 131, .tmp 134] #[29, 22, 40] #[.pointer (some ⟨r2, 0, none⟩), .slice (some ⟨gk2, 0, none⟩) 32 32, .slice po2 1 1] rfl rfl rfl (by rfl) (by rfl) (by kernel_rfl) Tryd.call16 fun u6 hg6 hs6 => ?_
                have q6 : Below u55.heap.size u55 u6 := hg6
                have TT := TD4.grow q6
                refine (oSDeriveI u6 TT.b.se TT.b.ok H9.out.like.i' (kb2.1.below q6 (Nat.le_refl _)) (ob2.below q6 (Nat.le_refl _)) (by omega) (by omega) htot (by have := H9.out.n2; omega)).mono ?_
                rintro e u7 ⟨ae, me, ce, rfl, oe, se2, ke2⟩
                have TU := TT.right se2 (TT.b.ok.derive (by have := H9.out.n2; omega) _ _) ke2
                have X7 : BA (fun j => ¬ (U1 j ∨ U2 j)) u7 ad md cd (noiseL (T1.num (keyB ke) (packL [be])) 32) := (XD4.below' q6).kp ke2 fun j hj hu => hj (Or.inr hu)
                refine ⟨_, rfl, hs6.trans (ke2.mono fun j _ hj => Or.inr hj), ?_⟩
                simp only [Act.put, List.setIfInBounds_toArray, List.set_cons_zero, List.set_cons_succ]
                refine callG 20 (some 136) 15 #[.tmp 127, .tmp 135] #[22, 22] #[.slice ad md cd, .slice ae me ce] rfl rfl rfl (by rfl) (by rfl) (by kernel_rfl) Tryd.call15 fun u8 hg8 hs8 => ?_
                have CS8 := oSame u8 (X7.below' hg8).1 (oe.toBs.below hg8 (Nat.le_refl _))
                rw [decide_eq_true (by rw [H9.out.like.num])] at CS8
                refine CS8.mono ?_
                rintro _ _ ⟨rfl, rfl⟩
                refine ⟨_, rfl, hs8, ?_⟩
                simp only [Act.put, List.setIfInBounds_toArray, List.set_cons_zero, List.set_cons_succ]
                refine takeG 21 (some 137) (.bool false) rfl rfl (by kernel_rfl) (by kernel_rfl) (by kernel_rfl) (fun _ _ _ h => h) (ans_plain (by rfl) (fun w _ => by unfold execOp; go_simp)) ?_
                simp only [Act.put, List.setIfInBounds_toArray, List.set_cons_zero, List.set_cons_succ]
                refine takeG 22 (some 138) (.bool false) rfl rfl (by kernel_rfl) (by kernel_rfl) (by kernel_rfl) (fun _ _ _ h => h) (ans_plain (by rfl) (fun w _ => by unfold execOp; go_simp)) ?_
                simp only [Act.put, List.setIfInBounds_toArray, List.set_cons_zero, List.set_cons_succ]
                refine doneG (by kernel_rfl) fun v10 hg10 hs10 => ?_
                have HE : Hid (BlI w v10 r1 U1 (T1.derive (keyB ke) (packL [be])) M1 r2 U2 (T2.derive (keyB ke) (packL [be])) M2 (3 * (k + 1))) := ⟨(TU.grow hg8).grow hg10, H9.out.like.derive _ _, by have := T1.derive_count (keyB ke) (packL [be]); have := T1.derive_book (keyB ke) (packL [be]); have := H9.out.n1; rw [T1.derive_book]; omega, by have := T2.derive_count (keyB ke) (packL [be]); have := H9.out.n2; rw [T2.derive_book]; omega⟩
                clear G1 G3 CK
                go_wp2_with fail
                go_roundw
                case rel => exact ⟨k + 1, _, _, by omega, by go_num, HE.out⟩
                case measure => simp [intOf]; omega
              · refine (mkOneK 18 134 (.tmp 133) be rfl rfl rfl (by rfl) y n z rfl Y9.out) _ _ hs2 fun xv u3 hC hg3 hs3 => ⟨hs3, ?_⟩
                simp only [Act.put, List.setIfInBounds_toArray, List.set_cons_zero, List.set_cons_succ]
                refine oneG 11 (by kernel_rfl) fun u4 hg4 hs4 => ?_
                have q14 : Below u1.heap.size u1 u4 := Below.trans hg2 (Below.trans (Below.mono hg3 (Below.size hg2)) (Below.mono hg4 (Below.size (Below.trans hg2 (Below.mono hg3 (Below.size hg2))))))
                have q4 : Below v9.heap.size v9 u4 := q1.trans (q14.mono q1.size)
                refine opCallW 11 (some 127) 16 #[.tmp 120, .tmp 123, .tmp 126] #[29, 22, 40] #[.pointer (some ⟨r1, 0, none⟩), .slice (some ⟨gk, 0, none⟩) 32 32, .slice po 1 1] rfl rfl rfl (by rfl) (by rfl) Tryd.call16 ?_
                have ST := H9.out.grow q4
                refine (oSDeriveI u4 ST.two.a.se ST.two.a.ok ST.like.i (hkb.1.below q14 (Nat.le_refl _)) (hob.below q14 (Nat.le_refl _)) (by omega) (by omega) htot (by have := ST.n1; omega)).mono ?_
                rintro e ud ⟨ad, md, cd, rfl, od, sd, kd1⟩
                have TD := ST.two.left sd (ST.two.a.ok.derive (by have := ST.n1; omega) _ _) kd1
                have XD : BA (fun j => ¬ (U1 j ∨ U2 j)) ud ad md cd (noiseL (T1.num (keyB ke) (packL [be])) 32) := od.ba.mono' fun j _ hj hu => by have := ST.lt j hu; omega
                have kF : Kp (fun j => U1 j ∨ U2 j) u4 ud := kd1.mono fun j _ hj => Or.inl hj
                refine ⟨_, rfl, hs4.trans kF, ?_⟩
                simp only [Act.put, List.setIfInBounds_toArray, List.set_cons_zero, List.set_cons_succ]
                have hC4 := (hC.grow _ _ _ hg4).kp kF (fun j h => h) hF9
                refine oneG 15 (by kernel_rfl) fun u5 hg5 hs5 => ?_
                refine (mkCallK 15 131 11 #[.tmp 130] #[5] #[.int .u8 (ke : Int)] (KeyV (fun j => U1 j ∨ U2 j) ke) rfl rfl rfl (by rfl) (by rfl) Tryd.call11 CK.out) _ _ hs5 fun kv2 u55 hA2 hg55 hs55 => ⟨hs55, ?_⟩
                simp only [Act.put, List.setIfInBounds_toArray, List.set_cons_zero, List.set_cons_succ]
                have q55 : Below ud.heap.size ud u55 := Below.trans hg5 (Below.mono hg55 (Below.size hg5))
                have hC2 := hC4.grow _ _ _ q55
                have TD4 := TD.grow q55
                have XD4 := XD.below' q55
                obtain ⟨gk2, rfl, kb2⟩ := hA2
                obtain ⟨po2, rfl, ob2⟩ := hC2.bss
                refine callG 19 (some 135) 16 #[.tmp 128, .tmp 131, .tmp 134] #[29, 22, 40] #[.pointer (some ⟨r2, 0, none⟩), .slice (some ⟨gk2, 0, none⟩) 32 32, .slice po2 1 1] rfl rfl rfl (by rfl) (by rfl) (by kernel_rfl) Tryd.call16 fun u6 hg6 hs6 => ?_
                have q6 : Below u55.heap.size u55 u6 := hg6
                have TT := TD4.grow q6
                refine (oSDeriveI u6 TT.b.se TT.b.ok H9.out.like.i' (kb2.1.below q6 (Nat.le_refl _)) (ob2.below q6 (Nat.le_refl _)) (by omega) (by omega) htot (by have := H9.out.n2; omega)).mono ?_
                rintro e u7 ⟨ae, me, ce, rfl, oe, se2, ke2⟩
                have TU := TT.right se2 (TT.b.ok.derive (by have := H9.out.n2; omega) _ _) ke2
                have X7 : BA (fun j => ¬ (U1 j ∨ U2 j)) u7 ad md cd (noiseL (T1.num (keyB ke) (packL [be])) 32) := (XD4.below' q6).kp ke2 fun j hj hu => hj (Or.inr hu)
                refine ⟨_, rfl, hs6.trans (ke2.mono fun j _ hj => Or.inr hj), ?_⟩
                simp only [Act.put, List.setIfInBounds_toArray, List.set_cons_zero, List.set_cons_succ]
                refine callG 20 (some 136) 15 #[.tmp 127, .tmp 135] #[22, 22] #[.slice ad md cd, .slice ae me ce] rfl rfl rfl (by rfl) (by rfl) (by kernel_rfl) Tryd.call15 fun u8 hg8 hs8 => ?_
                have CS8 := oSame u8 (X7.below' hg8).1 (oe.toBs.below hg8 (Nat.le_refl _))
                rw [decide_eq_true (by rw [H9.out.like.num])] at CS8
                refine CS8.mono ?_
                rintro _ _ ⟨rfl, rfl⟩
                refine ⟨_, rfl, hs8, ?_⟩
                simp only [Act.put, List.setIfInBounds_toArray, List.set_cons_zero, List.set_cons_succ]
                refine takeG 21 (some 137) (.bool false) rfl rfl (by kernel_rfl) (by kernel_rfl) (by kernel_rfl) (fun _ _ _ h => h) (ans_plain (by rfl) (fun w _ => by unfold execOp; go_simp)) ?_
                simp only [Act.put, List.setIfInBounds_toArray, List.set_cons_zero, List.set_cons_succ]
                refine takeG 22 (some 138) (.bool false) rfl rfl (by kernel_rfl) (by kernel_rfl) (by kernel_rfl) (fun _ _ _ h => h) (ans_plain (by rfl) (fun w _ => by unfold execOp; go_simp)) ?_
                simp only [Act.put, List.setIfInBounds_toArray, List.set_cons_zero, List.set_cons_succ]
                refine doneG (by kernel_rfl) fun v10 hg10 hs10 => ?_
                have HE : Hid (BlI w v10 r1 U1 (T1.derive (keyB ke) (packL [be])) M1 r2 U2 (T2.derive (keyB ke) (packL [be])) M2 (3 * (k + 1))) := ⟨(TU.grow hg8).grow hg10, H9.out.like.derive _ _, by have := T1.derive_count (keyB ke) (packL [be]); have := T1.derive_book (keyB ke) (packL [be]); have := H9.out.n1; rw [T1.derive_book]; omega, by have := T2.derive_count (keyB ke) (packL [be]); have := H9.out.n2; rw [T2.derive_book]; omega⟩
                clear G1 G3 CK
                go_wp2_with fail
                go_roundw
                case rel => exact ⟨k + 1, _, _, by omega, by go_num, HE.out⟩
                case measure => simp [intOf]; omega
            · intro kv ov xv u1 hA hB hC hg1 hs1
              simp only [Act.put, List.setIfInBounds_toArray, List.set_cons_zero, List.set_cons_succ]
              obtain ⟨gk, rfl, hkb⟩ := hA
              obtain ⟨po, rfl, hob⟩ := hB.bss
              have q1 : Below v9.heap.size v9 u1 := Grows.ofDrew hg1
              refine oneG 11 (by kernel_rfl) fun u4 hg4 hs4 => ?_
              have q14 : Below u1.heap.size u1 u4 := hg4
              have q4 : Below v9.heap.size v9 u4 := q1.trans (q14.mono q1.size)
              refine opCallW 11 (some 127) 16 #[.tmp 120, .tmp 123, .tmp 126] #[29, 22, 40] #[.pointer (some ⟨r1, 0, none⟩), .slice (some ⟨gk, 0, none⟩) 32 32, .slice po 1 1] rfl rfl rfl (by rfl) (by rfl) Tryd.call16 ?_
              have ST := H9.out.grow q4
              refine (oSDeriveI u4 ST.two.a.se ST.two.a.ok ST.like.i (hkb.1.below q14 (Nat.le_refl _)) (hob.below q14 (Nat.le_refl _)) (by omega) (by omega) htot (by have := ST.n1; omega)).mono ?_
              rintro e ud ⟨ad, md, cd, rfl, od, sd, kd1⟩
              have TD := ST.two.left sd (ST.two.a.ok.derive (by have := ST.n1; omega) _ _) kd1
              have XD : BA (fun j => ¬ (U1 j ∨ U2 j)) ud ad md cd (noiseL (T1.num (keyB ke) (packL [be])) 32) := od.ba.mono' fun j _ hj hu => by have := ST.lt j hu; omega
              have kF : Kp (fun j => U1 j ∨ U2 j) u4 ud := kd1.mono fun j _ hj => Or.inl hj
              refine ⟨_, rfl, hs4.trans kF, ?_⟩
              simp only [Act.put, List.setIfInBounds_toArray, List.set_cons_zero, List.set_cons_succ]
              have hC4 := (hC.grow _ _ _ hg4).kp kF (fun j h => h) hF9
              refine oneG 15 (by kernel_rfl) fun u5 hg5 hs5 => ?_
              refine (mkCallK 15 131 11 #[.tmp 130] #[5] #[.int .u8 (ke : Int)] (KeyV (fun j => U1 j ∨ U2 j) ke) rfl rfl rfl (by rfl) (by rfl) Tryd.call11 CK.out) _ _ hs5 fun kv2 u55 hA2 hg55 hs55 => ⟨hs55, ?_⟩
              simp only [Act.put, List.setIfInBounds_toArray, List.set_cons_zero, List.set_cons_succ]
              have q55 : Below ud.heap.size ud u55 := Below.trans hg5 (Below.mono hg55 (Below.size hg5))
              have hC2 := hC4.grow _ _ _ q55
              have TD4 := TD.grow q55
              have XD4 := XD.below' q55
              obtain ⟨gk2, rfl, kb2⟩ := hA2
              obtain ⟨po2, rfl, ob2⟩ := hC2.bss
              refine callG 19 (some 135) 16 #[.tmp 128, .tmp 131, .tmp 134] #[29, 22, 40] #[.pointer (some ⟨r2, 0, none⟩), .slice (some ⟨gk2, 0, none⟩) 32 32, .slice po2 1 1] rfl rfl rfl (by rfl) (by rfl) (by kernel_rfl) Tryd.call16 fun u6 hg6 hs6 => ?_
              have q6 : Below u55.heap.size u55 u6 := hg6
              have TT := TD4.grow q6
              refine (oSDeriveI u6 TT.b.se TT.b.ok H9.out.like.i' (kb2.1.below q6 (Nat.le_refl _)) (ob2.below q6 (Nat.le_refl _)) (by omega) (by omega) htot (by have := H9.out.n2; omega)).mono ?_
              rintro e u7 ⟨ae, me, ce, rfl, oe, se2, ke2⟩
              have TU := TT.right se2 (TT.b.ok.derive (by have := H9.out.n2; omega) _ _) ke2
              have X7 : BA (fun j => ¬ (U1 j ∨ U2 j)) u7 ad md cd (noiseL (T1.num (keyB ke) (packL [be])) 32) := (XD4.below' q6).kp ke2 fun j hj hu => hj (Or.inr hu)
              refine ⟨_, rfl, hs6.trans (ke2.mono fun j _ hj => Or.inr hj), ?_⟩
              simp only [Act.put, List.setIfInBounds_toArray, List.set_cons_zero, List.set_cons_succ]
              refine callG 20 (some 136) 15 #[.tmp 127, .tmp 135] #[22, 22] #[.slice ad md cd, .slice ae me ce] rfl rfl rfl (by rfl) (by rfl) (by kernel_rfl) Tryd.call15 fun u8 hg8 hs8 => ?_
              have CS8 := oSame u8 (X7.below' hg8).1 (oe.toBs.below hg8 (Nat.le_refl _))
              rw [decide_eq_true (by rw [H9.out.like.num])] at CS8
              refine CS8.mono ?_
              rintro _ _ ⟨rfl, rfl⟩
              refine ⟨_, rfl, hs8, ?_⟩
              simp only [Act.put, List.setIfInBounds_toArray, List.set_cons_zero, List.set_cons_succ]
              refine takeG 21 (some 137) (.bool false) rfl rfl (by kernel_rfl) (by kernel_rfl) (by kernel_rfl) (fun _ _ _ h => h) (ans_plain (by rfl) (fun w _ => by unfold execOp; go_simp)) ?_
              simp only [Act.put, List.setIfInBounds_toArray, List.set_cons_zero, List.set_cons_succ]
              refine takeG 22 (some 138) (.bool false) rfl rfl (by kernel_rfl) (by kernel_rfl) (by kernel_rfl) (fun _ _ _ h => h) (ans_plain (by rfl) (fun w _ => by unfold execOp; go_simp)) ?_
              simp only [Act.put, List.setIfInBounds_toArray, List.set_cons_zero, List.set_cons_succ]
              refine doneG (by kernel_rfl) fun v10 hg10 hs10 => ?_
              have HE : Hid (BlI w v10 r1 U1 (T1.derive (keyB ke) (packL [be])) M1 r2 U2 (T2.derive (keyB ke) (packL [be])) M2 (3 * (k + 1))) := ⟨(TU.grow hg8).grow hg10, H9.out.like.derive _ _, by have := T1.derive_count (keyB ke) (packL [be]); have := T1.derive_book (keyB ke) (packL [be]); have := H9.out.n1; rw [T1.derive_book]; omega, by have := T2.derive_count (keyB ke) (packL [be]); have := H9.out.n2; rw [T2.derive_book]; omega⟩
              clear G1 G3 CK
              go_wp2_with fail
              go_roundw
              case rel => exact ⟨k + 1, _, _, by omega, by go_num, HE.out⟩
              case measure => simp [intOf]; omega
          · have j3 : ((m3 : Int) == 2) = false := by simp; omega
            have j4 : ¬ (m3 : Int) = 2 := by omega
            refine regionG (S := Grows v9) (by kernel_rfl) (Below.refl _ v9).drew ?_
            refine takeG 0 (some 116) (.int .i64 (k : Int)) rfl rfl (by kernel_rfl) (by kernel_rfl) (by kernel_rfl) (fun _ _ _ h => h) (ans_plain (by rfl) (fun w _ => rfl)) ?_
            simp only [Act.put, List.setIfInBounds_toArray, List.set_cons_zero, List.set_cons_succ]
            refine takeG 1 (some 117) (.int .i64 (m3 : Int)) rfl rfl (by kernel_rfl) (by kernel_rfl) (by kernel_rfl) (fun _ _ _ h => h) (ans_plain (by rfl) (fun w _ => by unfold execOp; go_simp)) ?_
            simp only [Act.put, List.setIfInBounds_toArray, List.set_cons_zero, List.set_cons_succ]
            refine takeG 2 (some 118) (.bool false) rfl rfl (by kernel_rfl) (by kernel_rfl) (by kernel_rfl) (fun _ _ _ h => h) (ans_plain (by rfl) (fun w _ => by unfold execOp; go_simp)) ?_
            simp only [Act.put, List.setIfInBounds_toArray, List.set_cons_zero, List.set_cons_succ]
            refine takeG 3 (some 119) (.bool false) rfl rfl (by kernel_rfl) (by kernel_rfl) (by kernel_rfl) (fun _ _ _ h => h) (ans_plain (by rfl) (fun w _ => rfl)) ?_
            simp only [Act.put, List.setIfInBounds_toArray, List.set_cons_zero, List.set_cons_succ]
            refine takeG 4 (some 120) (undef) rfl rfl (by kernel_rfl) (by kernel_rfl) (by kernel_rfl) (fun _ _ _ h => h) (Or.inr ⟨by rfl, rfl⟩) ?_
            simp only [Act.put, List.setIfInBounds_toArray, List.set_cons_zero, List.set_cons_succ]
            refine takeG 5 (some 121) (undef) rfl rfl (by kernel_rfl) (by kernel_rfl) (by kernel_rfl) (fun _ _ _ h => h) (Or.inr ⟨by rfl, rfl⟩) ?_
            simp only [Act.put, List.setIfInBounds_toArray, List.set_cons_zero, List.set_cons_succ]
            refine takeG 6 (some 122) (undef) rfl rfl (by kernel_rfl) (by kernel_rfl) (by kernel_rfl) (fun _ _ _ h => h) (Or.inr ⟨by rfl, rfl⟩) ?_
            simp only [Act.put, List.setIfInBounds_toArray, List.set_cons_zero, List.set_cons_succ]
            refine takeG 7 (some 123) (undef) rfl rfl (by kernel_rfl) (by kernel_rfl) (by kernel_rfl) (fun _ _ _ h => h) (Or.inr ⟨by rfl, rfl⟩) ?_
            simp only [Act.put, List.setIfInBounds_toArray, List.set_cons_zero, List.set_cons_succ]
            refine takeG 8 (some 124) (undef) rfl rfl (by kernel_rfl) (by kernel_rfl) (by kernel_rfl) (fun _ _ _ h => h) (Or.inr ⟨by rfl, rfl⟩) ?_
            simp only [Act.put, List.setIfInBounds_toArray, List.set_cons_zero, List.set_cons_succ]
            refine takeG 9 (some 125) (undef) rfl rfl (by kernel_rfl) (by kernel_rfl) (by kernel_rfl) (fun _ _ _ h => h) (Or.inr ⟨by rfl, rfl⟩) ?_
            simp only [Act.put, List.setIfInBounds_toArray, List.set_cons_zero, List.set_cons_succ]
            refine takeG 10 (some 126) (undef) rfl rfl (by kernel_rfl) (by kernel_rfl) (by kernel_rfl) (fun _ _ _ h => h) (Or.inr ⟨by rfl, rfl⟩) ?_
            simp only [Act.put, List.setIfInBounds_toArray, List.set_cons_zero, List.set_cons_succ]
            refine takeG 11 (some 127) (undef) rfl rfl (by kernel_rfl) (by kernel_rfl) (by kernel_rfl) (fun _ _ _ h => h) (Or.inr ⟨by rfl, rfl⟩) ?_
            simp only [Act.put, List.setIfInBounds_toArray, List.set_cons_zero, List.set_cons_succ]
            refine takeG 12 (some 128) (undef) rfl rfl (by kernel_rfl) (by kernel_rfl) (by kernel_rfl) (fun _ _ _ h => h) (Or.inr ⟨by rfl, rfl⟩) ?_
            simp only [Act.put, List.setIfInBounds_toArray, List.set_cons_zero, List.set_cons_succ]
            refine takeG 13 (some 129) (undef) rfl rfl (by kernel_rfl) (by kernel_rfl) (by kernel_rfl) (fun _ _ _ h => h) (Or.inr ⟨by rfl, rfl⟩) ?_
            simp only [Act.put, List.setIfInBounds_toArray, List.set_cons_zero, List.set_cons_succ]
            refine takeG 14 (some 130) (undef) rfl rfl (by kernel_rfl) (by kernel_rfl) (by kernel_rfl) (fun _ _ _ h => h) (Or.inr ⟨by rfl, rfl⟩) ?_
            simp only [Act.put, List.setIfInBounds_toArray, List.set_cons_zero, List.set_cons_succ]
            refine takeG 15 (some 131) (undef) rfl rfl (by kernel_rfl) (by kernel_rfl) (by kernel_rfl) (fun _ _ _ h => h) (Or.inr ⟨by rfl, rfl⟩) ?_
            simp only [Act.put, List.setIfInBounds_toArray, List.set_cons_zero, List.set_cons_succ]
            refine takeG 16 (some 132) (undef) rfl rfl (by kernel_rfl) (by kernel_rfl) (by kernel_rfl) (fun _ _ _ h => h) (Or.inr ⟨by rfl, rfl⟩) ?_
            simp only [Act.put, List.setIfInBounds_toArray, List.set_cons_zero, List.set_cons_succ]
            refine takeG 17 (some 133) (undef) rfl rfl (by kernel_rfl) (by kernel_rfl) (by kernel_rfl) (fun _ _ _ h => h) (Or.inr ⟨by rfl, rfl⟩) ?_
            simp only [Act.put, List.setIfInBounds_toArray, List.set_cons_zero, List.set_cons_succ]
            refine takeG 18 (some 134) (undef) rfl rfl (by kernel_rfl) (by kernel_rfl) (by kernel_rfl) (fun _ _ _ h => h) (Or.inr ⟨by rfl, rfl⟩) ?_
            simp only [Act.put, List.setIfInBounds_toArray, List.set_cons_zero, List.set_cons_succ]
            refine takeG 19 (some 135) (undef) rfl rfl (by kernel_rfl) (by kernel_rfl) (by kernel_rfl) (fun _ _ _ h => h) (Or.inr ⟨by rfl, rfl⟩) ?_
            simp only [Act.put, List.setIfInBounds_toArray, List.set_cons_zero, List.set_cons_succ]
            refine takeG 20 (some 136) (undef) rfl rfl (by kernel_rfl) (by kernel_rfl) (by kernel_rfl) (fun _ _ _ h => h) (Or.inr ⟨by rfl, rfl⟩) ?_
            simp only [Act.put, List.setIfInBounds_toArray, List.set_cons_zero, List.set_cons_succ]
            refine takeG 21 (some 137) (undef) rfl rfl (by kernel_rfl) (by kernel_rfl) (by kernel_rfl) (fun _ _ _ h => h) (Or.inr ⟨by rfl, rfl⟩) ?_
            simp only [Act.put, List.setIfInBounds_toArray, List.set_cons_zero, List.set_cons_succ]
            refine takeG 22 (some 138) (.bool false) rfl rfl (by kernel_rfl) (by kernel_rfl) (by kernel_rfl) (fun _ _ _ h => h) (ans_plain (by rfl) (fun w _ => by unfold execOp; go_simp)) ?_
            simp only [Act.put, List.setIfInBounds_toArray, List.set_cons_zero, List.set_cons_succ]
            refine doneG (by kernel_rfl) fun v10 hg10 hs10 => ?_
            have HE : Hid (BlI w v10 r1 U1 T1 M1 r2 U2 T2 M2 (3 * (k + 1))) := ⟨(H9.out.grow hs10).two, H9.out.like, by have := H9.out.n1; omega, by have := H9.out.n2; omega⟩
            clear hg10 hs10 H9 Y9 B9
            go_wp2_with fail
            go_roundw
            case rel => exact ⟨k + 1, _, _, by omega, by go_num, HE.out⟩
            case measure => simp [intOf]; omega
      · have i0 : ¬ (k : Int) < (len0 : Int) := by omega
        have QR : Hid (Below w.heap.size w wr) := HI.out.two.a.bel
        clear HI
        go_wp2_with fail
        refine (lWorks12 wr).mono ?_
        rintro e wz ⟨rfl, hbz⟩
        go_wp2_with fail
        go_ret
        exact ⟨rfl, QR.out.trans (hbz.mono QR.out.size)⟩

set_option maxRecDepth 100000 in
theorem contract (H : Type) (enc : TypeId × Value → H) (W : World) (base : Nat) (args : Array Value) (ds gs : List (DataW H)) (before : List MemPlace)
    (hval0 : ∀ (j : Nat) t v, Tryd.f4.params[j]? = some t → args[j]? = some v → Value.okWide Tryd.prog W .any base t v)
    (hW : DataW.Whole enc Tryd.prog Tryd.f4.params.toList Rows.sealBlindSpec.vars false W args.toList ds gs before) (hL : laidMetH Tryd.prog Rows.sealBlindRow.laid W) :
    Calls Tryd.prog 4 args W fun e W' => ∃ v, e = .returned v ∧ Rows.sealBlindSpec.post enc Tryd.prog Tryd.f4 false true false false W args v W' := by
  have hval : ∀ (j : Nat) t v, Tryd.f4.params[j]? = some t → args[j]? = some v → Value.okWide Tryd.prog W .any base t v := hval0
  have hW' := hW
  obtain ⟨p, q, hA0, hV, rfl, hfz, hnd⟩ := hW
  have hA : DataW.TrodAll enc Tryd.prog W 0 (fun _ => true) true Tryd.f4.params.toList args.toList ds p := hA0
  rw [Tryd.params4] at hA hval
  obtain ⟨v0, vs0, d0, ds0, p0, q0, hargs, rfl, rfl, h0, r0⟩ := trodAll_cons hA
  obtain ⟨v1, vs1, d1, ds1, p1, q1, rfl, rfl, rfl, h1, r1⟩ := trodAll_cons r0
  obtain ⟨rfl, rfl, rfl⟩ := trodAll_nil r1
  obtain rfl : args = #[v0, v1] := by cases args; simp_all
  obtain ⟨rfl, rfl⟩ := trodVars_none hV
  obtain ⟨a0, len0, cap0, rfl⟩ := okWide_slice Tryd.underlying26 (hval 0 26 v0 rfl rfl)
  have k0 := h0
  have lt0 : ∀ x ∈ p0, x.block < W.heap.size := by obtain ⟨m, hm⟩ := k0; exact DataW.trod_lt m _ _ _ hm
  obtain ⟨l0, w0⟩ : ∃ l, Acts12 W a0 len0 cap0 l := by
    obtain ⟨fuel, hf⟩ := h0
    exact acts12_of_trod hf
  obtain ⟨a1, len1, cap1, rfl⟩ := okWide_slice Tryd.underlying40 (hval 1 40 v1 rfl rfl)
  have k1 := h1
  have lt1 : ∀ x ∈ p1, x.block < W.heap.size := by obtain ⟨m, hm⟩ := k1; exact DataW.trod_lt m _ _ _ hm
  obtain ⟨l1, w1⟩ : ∃ l, Bss W a1 len1 cap1 l := by
    obtain ⟨fuel, hf⟩ := h1
    exact Bss.of_trod hf
  clear hA0 hval0
  refine (walk a0 len0 cap0 l0 a1 len1 cap1 l1 W (kon hL) w0 w1).mono fun e W' ⟨he, bel⟩ => ?_
  subst he
  exact ⟨_, rfl, _, _, _, [], _, [], hW', trodAll_mk1 (shut_bool Tryd.underlying4 _), (trodAll_cons_mk (Below.trod laidOut (by kernel_rfl) (of_decide_eq_true (by kernel_rfl)) k0 bel lt0) (trodAll_cons_mk (Below.trod laidOut (by kernel_rfl) (of_decide_eq_true (by kernel_rfl)) k1 bel lt1) trodAll_mk0)), rfl, bel.frame _, fun h => by cases h⟩

/-- A world for the witness: the settled one, the constants as their initialiser lays them. -/
noncomputable def laidWorld (os : Os) : World :=
  { World.holding Tryd.prog os ⟨#[], #[], []⟩ with heap := (World.holding Tryd.prog os ⟨#[], #[], []⟩).heap.modify 0 fun
      | .cells _ t frozen => .cells (ws sKs).toArray t frozen
      | o => o }
set_option maxRecDepth 100000 in
theorem laid_met (os : Os) : laidMet Tryd.prog Rows.sealBlindRow.laid ((laidWorld os).forCall (fun _ _ => 0) ⟨#[], #[.slice none 0 0, .slice none 0 0], []⟩).memory :=
  laidMet_of_run' 8 (by kernel_rfl) (by kernel_rfl)
set_option maxRecDepth 100000 in
theorem reads (os : Os) {H : Type} (enc : TypeId × Value → H) : ∃ places, DataW.whole enc Tryd.prog ((laidWorld os).forCall (fun _ _ => 0) ⟨#[], #[.slice none 0 0, .slice none 0 0], []⟩).memory Tryd.f4.params.toList Rows.sealBlindSpec.vars false (#[.slice none 0 0, .slice none 0 0] : Array Value).toList 8 = some ([.nil, .nil], [], places) :=
  ⟨[], by kernel_rfl⟩

set_option maxRecDepth 100000 in
theorem lifted (os : Os) (started : os.Started) (H : Type) (enc : TypeId × Value → H) (F : Stop.Interp) :
    ReturnsInHanded {} Tryd.checked os 4 .any ((OpenSpec.ofChange Rows.sealBlindSpec).preRow enc Tryd.prog Tryd.f4 Rows.sealBlindRow.domain false Rows.sealBlindRow.laid) (((OpenSpec.ofChange Rows.sealBlindSpec).at F).post enc Tryd.prog Tryd.f4 false true false false) := by
  obtain ⟨places, hx⟩ := reads os enc
  refine returnsInHanded_of_row (C := Tryd.checked) (s := OpenSpec.ofChange Rows.sealBlindSpec) own started (by kernel_rfl) Tryd.func4
    (witness_row_at (enc := enc) (C := Tryd.checked) false (laidWorld os) #[.slice none 0 0, .slice none 0 0] rfl (by kernel_rfl) (by kernel_rfl) (by kernel_rfl)
      (OpenSpec.preRow_of_cond 8 hx (by kernel_rfl) (fun k hk => by cases hk) (by kernel_rfl) (laid_met os))) ?_
  intro W base args ds gs before hval hW _ _ _ hL _ _
  exact contract H enc W base args ds gs before hval hW hL

theorem over : Rows.sealBlindRow.holds Tryd.pinned (OpenSpec.ofChange Rows.sealBlindSpec) :=
  OpenClaim.holds_of_cond 4 Tryd.f4 rfl rfl rfl rfl rfl rfl rfl ⟨rfl, rfl, rfl, rfl, rfl⟩ rfl rfl rfl rfl rfl (by kernel_rfl) Tryd.func4 (by kernel_rfl)
    (of_decide_eq_true (by kernel_rfl)) (by unfold Func.isWrapper; first | (rw [if_pos (by decide +kernel)]; kernel_rfl) | (rw [if_neg (by decide +kernel)]; exact ⟨rfl, rfl⟩))
    (fun os started H enc _ F => by rw [OpenClaim.pre_eq_preRow]; exact lifted os started H enc F)

/-- No parameter wants a stand-in. -/
theorem plain (f : FuncId) (fn : Func) (hf : Tryd.pinned.checked.prog.funcNamed "deedbox/deedboxlaw12.SealBlind" = some f) (hfn : Tryd.pinned.checked.prog.funcs[f]? = some fn) :
    false = Tryd.pinned.checked.prog.looks [] ∧ ∀ (j : Nat) t, fn.params[j]? = some t → Tryd.pinned.checked.prog.wantsStandIn t = false := by
  obtain rfl : f = 4 := Option.some.inj ((show Tryd.prog.funcNamed "deedbox/deedboxlaw12.SealBlind" = some 4 by kernel_rfl).symm.trans hf) |>.symm
  obtain rfl : fn = Tryd.f4 := (Option.some.inj (Tryd.func4.symm.trans hfn)).symm
  refine ⟨by kernel_rfl, fun j t ht => ?_⟩
  rw [Tryd.params4] at ht
  have hm := Array.mem_of_getElem? ht
  simp only [List.mem_toArray, List.mem_cons, List.not_mem_nil, or_false] at hm
  rcases hm with rfl | rfl
  · exact (show Tryd.prog.wantsStandIn 26 = false by kernel_rfl)
  · exact (show Tryd.prog.wantsStandIn 40 = false by kernel_rfl)
end SealBlindLaw

/-- The statement: the card. -/
theorem sealBlind_holds : Rows.SealBlindCardSaid :=
  Claim7.holds_tied_plain_at .later [] _ _ _ _ SealBlindLaw.over (fun _ h => by cases h) (by kernel_rfl) (fun _ h => by cases h) sealBlind_row_tie rfl ⟨rfl, rfl⟩ (by kernel_rfl) rfl SealBlindLaw.plain (by kernel_rfl)
#print axioms sealBlind_holds
end Go.Proofs.YtjpejheipkfanaaDoor
