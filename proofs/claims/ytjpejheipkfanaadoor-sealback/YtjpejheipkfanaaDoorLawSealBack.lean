/-
  Proved: for either kind of sealer, any act and any acts the statement SealBack of layer 12 answers true and leaves its arguments as they were. Conditions beside the statement's own: none; the card ties sha.roundConstants to the pruned copy of the program's text.
-/
import Derived.Test.YtjpejheipkfanaaDoorRows
import Derived.Test.YtjpejheipkfanaaDoorCards
import Derived.Test.YtjpejheipkfanaaDoorTie
import Derived.Test.YtjpejheipkfanaaDoorG22
import Derived.Below
import Derived.ChangeOld
import Derived.Deep.DeepHandedRow
import Derived.Lib.LaidTab
namespace Go.Proofs.YtjpejheipkfanaaDoor
namespace SealBackLaw
open Go.ChangeShapes Go.WideShapes Go.ChangeAt Go.RowKit
open Go.ChangeMaps (open_string shut_string)
set_option linter.unusedVariables false

theorem own : ownKnob Tryd.prog.godebug = none := by kernel_rfl
theorem laidOut : laidOutB Tryd.prog = true := by kernel_rfl
theorem gTab : Tryd.prog.globalNamed "deedbox/sha.roundConstants" = some 0 := by kernel_rfl
theorem gTabType : (Tryd.prog.globals[0]?).map (·.type) = some 144 := by kernel_rfl
theorem cellsT : Tryd.prog.cellsOf 144 = 64 := by kernel_rfl
theorem cellsE : Tryd.prog.cellsOf 33 = 1 := by kernel_rfl

/-- What the row's list gives: the constants lie in their variable. -/
theorem table {W : World} (h : laidMetH Tryd.prog Rows.sealBackRow.laid W) : Lib.TabIs Tryd.prog W "deedbox/sha.roundConstants" .u32 (sKs.map fun x => (x.toNat : Int)) :=
  Lib.tabIs_of_head (rest := []) gTab gTabType Tryd.underlying144 Tryd.underlying33 cellsE cellsT h
theorem kon {W : World} (h : laidMetH Tryd.prog Rows.sealBackRow.laid W) : Kon W := fun j v hv => by
  have hj : j < sKs.length := by have := (List.getElem?_eq_some_iff.1 hv).1; rwa [ws_length] at this
  have hc := (table h).cell gTab j (by rw [List.length_map]; exact hj)
  rw [Nat.zero_add, hc, ← hv]
  simp [ws, hj]

set_option maxRecDepth 100000 in
set_option maxHeartbeats 4000000 in
theorem walk (a0 : Bool) (x1 : Array Value) (l1 : Op12) (a2 : Option Addr) (len2 cap2 : Nat) (l2 : List Op12) (w : World) (hK : Kon w) (w1 : OpArg w x1 l1) (w2 : Acts12 w a2 len2 cap2 l2) :
    Calls Tryd.prog 3 #[.bool a0, .agg x1, .slice a2 len2 cap2] w fun e w' => e = .returned (.bool true) ∧ Below w.heap.size w w' := by
  obtain ⟨p, m, q, p', m', q', rfl, hB3, hB4, hfx⟩ := w1
  have HW2 : Hid (Acts12 w a2 len2 cap2 l2) := w2
  have hm2 := Sl.cap w2
  have hl2 : l2.length = len2 := Sl.len w2
  have HF : Hid l1.fit := hfx
  have H3 : Hid (BA (fun j => j < w.heap.size) w p m q l1.beside) := hB3
  have H4 : Hid (BA (fun j => j < w.heap.size) w p' m' q' l1.text) := hB4
  have hke : l1.key ≤ 255 := hfx.2.1
  have hno : l1.nonce ≤ 255 := hfx.2.2.1
  clear w2 hB3 hB4 hfx hK
  obtain ⟨kd, ke, no, be, te, tu, sh⟩ := l1
  dsimp only at HF H3 H4 hke hno
  unfold ok12
  dsimp only
  go_enter Tryd.func3, Tryd.ntmps3
  go_wp2_with fail
  obtain ⟨x4, hx4⟩ : ∃ x, x = w.heap.size := ⟨_, rfl⟩
  have B0 : Blk (w.alloc (.cells #[.int .i64 kd, .int .u8 (ke : Int), .int .u8 (no : Int), .slice p m q, .slice p' m' q', .int .u16 (tu : Int), .bool sh] 25)) w.heap.size (ok12 ⟨kd, ke, no, be, te, tu, sh⟩ p m q p' m' q') 25 := Blk.new w _ _
  have q0 : Below w.heap.size w (w.alloc (.cells #[.int .i64 kd, .int .u8 (ke : Int), .int .u8 (no : Int), .slice p m q, .slice p' m' q', .int .u16 (tu : Int), .bool sh] 25)) := below_alloc w _
  have B1 := Blk.new (w.alloc (.cells #[.int .i64 kd, .int .u8 (ke : Int), .int .u8 (no : Int), .slice p m q, .slice p' m' q', .int .u16 (tu : Int), .bool sh] 25)) #[.int .i64 kd, .int .u8 (ke : Int), .int .u8 (no : Int), .slice p m q, .slice p' m' q', .int .u16 (tu : Int), .bool sh] 25
  rw [show (w.alloc (.cells #[.int .i64 kd, .int .u8 (ke : Int), .int .u8 (no : Int), .slice p m q, .slice p' m' q', .int .u16 (tu : Int), .bool sh] 25)).heap.size = w.heap.size + 1 from by simp] at B1
  have B0' := B0.old (.cells #[.int .i64 kd, .int .u8 (ke : Int), .int .u8 (no : Int), .slice p m q, .slice p' m' q', .int .u16 (tu : Int), .bool sh] 25)
  have q1 : Below w.heap.size w ((w.alloc (.cells #[.int .i64 kd, .int .u8 (ke : Int), .int .u8 (no : Int), .slice p m q, .slice p' m' q', .int .u16 (tu : Int), .bool sh] 25)).alloc (.cells #[.int .i64 kd, .int .u8 (ke : Int), .int .u8 (no : Int), .slice p m q, .slice p' m' q', .int .u16 (tu : Int), .bool sh] 25)) := q0.trans ((below_alloc _ _).mono q0.size)
  rw [← hx4] at B0' B1 ⊢
  have hxw : w.heap.size ≤ x4 := by omega
  clear hx4 B0 q0
  generalize (w.alloc (.cells #[.int .i64 kd, .int .u8 (ke : Int), .int .u8 (no : Int), .slice p m q, .slice p' m' q', .int .u16 (tu : Int), .bool sh] 25)).alloc (.cells #[.int .i64 kd, .int .u8 (ke : Int), .int .u8 (no : Int), .slice p m q, .slice p' m' q', .int .u16 (tu : Int), .bool sh] 25) = u0 at *
  have QW : Hid (Below w.heap.size w u0) := q1
  have BX : Hid (Blk u0 x4 (ok12 ⟨kd, ke, no, be, te, tu, sh⟩ p m q p' m' q') 25) := B0'
  have AC : Hid (ActsA (fun _ => True) u0 (some ⟨x4 + 1, 0, none⟩) 1 1 [⟨kd, ke, no, be, te, tu, sh⟩]) := Sl.one B1 ⟨rfl, ok12_one ⟨kd, ke, no, be, te, tu, sh⟩ p m q p' m' q', p, m, q, p', m', q', rfl, (H3.out.below' q1).mono' (fun _ _ _ => trivial), (H4.out.below' q1).mono' (fun _ _ _ => trivial), HF.out⟩ trivial
  have A2 : Hid (ActsA (fun j => j < w.heap.size) u0 a2 len2 cap2 l2) := HW2.out.grow q1
  clear B0' B1 q1
  refine (lLight12 u0 AC.out 1 (by omega) (by omega)).mono ?_
  rintro e u1 ⟨v, rfl, hv, rfl⟩
  cases v with
  | false =>
    go_wp2_with fail
    refine (lWorks12 u0).mono ?_
    rintro e wz ⟨rfl, hbz⟩
    go_wp2_with fail
    go_ret
    exact ⟨rfl, QW.out.trans (hbz.mono QW.out.size)⟩
  | true =>
    have hv1 := (hv rfl).2 _ (List.mem_singleton.2 rfl)
    dsimp only at hv1
    have hm60 : m ≤ 60 := by rw [← H3.out.1.len]; exact hv1.1
    have hm60' : m' ≤ 60 := by rw [← H4.out.1.len]; exact hv1.2
    clear hv hv1
    go_wp2_with fail
    refine (lLight12 u0 A2.out 10 (by omega) (by omega)).mono ?_
    rintro e u1 ⟨v, rfl, hv, rfl⟩
    cases v with
    | false =>
      go_wp2_with fail
      refine (lWorks12 u0).mono ?_
      rintro e wz ⟨rfl, hbz⟩
      go_wp2_with fail
      go_ret
      exact ⟨rfl, QW.out.trans (hbz.mono QW.out.size)⟩
    | true =>
      obtain ⟨hn2, hv2⟩ := hv rfl
      have HV : Hid (∀ o ∈ l2, o.beside.length ≤ 60 ∧ o.text.length ≤ 60) := hv2
      have hn2' : len2 ≤ 10 := by omega
      clear hv hv2 hn2 AC A2
      go_wp2_with fail
      refine (oSNew a0 u0).mono ?_
      rintro e v1 ⟨s, U, M, rfl, hs1, hU1, hb1⟩
      have T1 : Hid (StaS u0 v1 s U (SeaS.new a0) M) := StaS.first (Below.refl _ u0) hs1 hU1 hb1
      clear hs1 hU1 hb1
      have c2 : v1.cell? ⟨x4, 2, none⟩ = some (.int .u8 (no : Int)) := (BX.out.below T1.out.bel BX.out.lt).cell 2
      have lx1 : x4 < v1.heap.size := lt_of_cell c2
      have hxu : x4 < u0.heap.size := BX.out.lt
      have hnx : ¬ U x4 := fun hu => by have := T1.out.base x4 hu; omega
      go_wp2_with fail
      refine (oSNonce v1 9 no (by omega) (by omega)).mono ?_
      rintro e v2 ⟨an, mn, cn, rfl, on, hbn⟩
      have ln := on.toBs.len
      rw [nonL_length] at ln
      subst ln
      have NB : Hid (BA (fun j => ¬ U j) v2 an 12 cn (nonL 9 no)) := on.no T1.out.se.lt
      have T2 : Hid (StaS u0 v2 s U (SeaS.new a0) M) := T1.out.grow hbn
      have B2 : Hid (Blk v2 x4 (ok12 ⟨kd, ke, no, be, te, tu, sh⟩ p m q p' m' q') 25) := BX.out.below T2.out.bel BX.out.lt
      clear T1 on hbn c2 lx1
      go_wp2_with fail
      have G1 : ∀ u, Kp U v2 u → u.cell? ⟨x4, 1, none⟩ = some (.int .u8 (ke : Int)) := fun u hu => (hu.blk B2.out hnx).cell 1
      have G3 : ∀ u, Kp U v2 u → u.cell? ⟨x4, 3, none⟩ = some (.slice p m q) := fun u hu => (hu.blk B2.out hnx).cell 3
      have G4 : ∀ u, Kp U v2 u → u.cell? ⟨x4, 4, none⟩ = some (.slice p' m' q') := fun u hu => (hu.blk B2.out hnx).cell 4
      refine regionG (S := Kp U v2) (by kernel_rfl) (Kp.of_below (Below.refl _ v2).drew) ?_
      refine takeG 0 (some 33) (.pointer (some ⟨s, 0, none⟩)) rfl rfl (by kernel_rfl) (by kernel_rfl) (by kernel_rfl) (fun _ _ _ h => h) (ans_plain (by rfl) (fun w _ => rfl)) ?_
      simp only [Act.put, List.setIfInBounds_toArray, List.set_cons_zero, List.set_cons_succ]
      refine takeG 1 (some 34) (.pointer (some ⟨x4, 1, none⟩)) rfl rfl (by kernel_rfl) (by kernel_rfl) (by kernel_rfl) (fun _ _ _ h => h) (ans_plain (by rfl) (fun w _ => by unfold execOp; go_simp)) ?_
      simp only [Act.put, List.setIfInBounds_toArray, List.set_cons_zero, List.set_cons_succ]
      refine takeG 2 (some 35) (.int .u8 (ke : Int)) rfl rfl (by kernel_rfl) (by kernel_rfl) (by kernel_rfl) (fun _ _ _ h => h) (ans_plain (by rfl) (fun w h => by have hc := G1 w h; unfold execOp; go_simp)) ?_
      simp only [Act.put, List.setIfInBounds_toArray, List.set_cons_zero, List.set_cons_succ]
      refine takeG 4 (some 37) (.slice an 12 cn) rfl rfl (by kernel_rfl) (by kernel_rfl) (by kernel_rfl) (fun _ _ _ h => h) (ans_plain (by rfl) (fun w _ => rfl)) ?_
      simp only [Act.put, List.setIfInBounds_toArray, List.set_cons_zero, List.set_cons_succ]
      refine takeG 5 (some 38) (.pointer (some ⟨x4, 3, none⟩)) rfl rfl (by kernel_rfl) (by kernel_rfl) (by kernel_rfl) (fun _ _ _ h => h) (ans_plain (by rfl) (fun w _ => by unfold execOp; go_simp)) ?_
      simp only [Act.put, List.setIfInBounds_toArray, List.set_cons_zero, List.set_cons_succ]
      refine takeG 6 (some 39) (.slice p m q) rfl rfl (by kernel_rfl) (by kernel_rfl) (by kernel_rfl) (fun _ _ _ h => h) (ans_plain (by rfl) (fun w h => by have hc := G3 w h; unfold execOp; go_simp)) ?_
      simp only [Act.put, List.setIfInBounds_toArray, List.set_cons_zero, List.set_cons_succ]
      refine takeG 7 (some 40) (.pointer (some ⟨x4, 4, none⟩)) rfl rfl (by kernel_rfl) (by kernel_rfl) (by kernel_rfl) (fun _ _ _ h => h) (ans_plain (by rfl) (fun w _ => by unfold execOp; go_simp)) ?_
      simp only [Act.put, List.setIfInBounds_toArray, List.set_cons_zero, List.set_cons_succ]
      refine takeG 8 (some 41) (.slice p' m' q') rfl rfl (by kernel_rfl) (by kernel_rfl) (by kernel_rfl) (fun _ _ _ h => h) (ans_plain (by rfl) (fun w h => by have hc := G4 w h; unfold execOp; go_simp)) ?_
      simp only [Act.put, List.setIfInBounds_toArray, List.set_cons_zero, List.set_cons_succ]
      refine callG 3 (some 36) 11 #[.tmp 35] #[5] #[.int .u8 (ke : Int)] rfl rfl rfl (by rfl) (by rfl) (by kernel_rfl) Tryd.call11 fun v3A hgAv3 hsAv3 => ?_
      refine (lKey12 v3A ke hke).mono ?_
      rintro e v3 ⟨gv3, rfl, _, ov3, hbv3⟩
      have hqv3 : Below v2.heap.size v2 v3 := Below.trans (Grows.ofDrew hgAv3) (hbv3.mono (Below.size (Grows.ofDrew hgAv3)))
      have Kv3 := ov3.no (U := U) (fun j hj => Nat.lt_of_lt_of_le (T2.out.se.lt j hj) (Below.size (Grows.ofDrew hgAv3)))
      refine ⟨_, rfl, hsAv3.trans (Kp.of_below hbv3), ?_⟩
      simp only [Act.put, List.setIfInBounds_toArray, List.set_cons_zero, List.set_cons_succ]
      refine callG 9 (some 42) 10 #[.tmp 33, .tmp 36, .tmp 37, .tmp 39, .tmp 41] #[29, 22, 22, 22, 22] #[.pointer (some ⟨s, 0, none⟩), .slice (some ⟨gv3, 0, none⟩) 32 32, .slice an 12 cn, .slice p m q, .slice p' m' q'] rfl rfl rfl (by rfl) (by rfl) (by kernel_rfl) Tryd.call10 fun v4 hg4 hs4 => ?_
      have hq4 : Below v2.heap.size v2 v4 := hqv3.trans (Below.mono hg4 hqv3.size)
      have ST := T2.out.grow hq4
      refine (oSSeal v4 ST.se ST.ok (Kv3.below' hg4) (NB.out.below' hq4) (ST.arg (H3.out.below' QW.out).1) (ST.arg (H4.out.below' QW.out).1) (by omega) (by omega) (by cases a0 <;> decide)).mono ?_
      rintro e v5 ⟨as', ms, cs', rfl, oS, seS, kpS⟩
      have lS := oS.toBs.len
      rw [SeaS.made_len (keyB_length ke) (nonL_length 9 no), H4.out.1.len] at lS
      refine ⟨_, rfl, hs4.trans kpS, ?_⟩
      simp only [Act.put, List.setIfInBounds_toArray, List.set_cons_zero, List.set_cons_succ]
      refine takeG 10 (some 32) (.tuple #[.slice as' ms cs', .int .i64 0]) rfl rfl (by kernel_rfl) (by kernel_rfl) (by kernel_rfl) (fun _ _ _ h => h) (ans_plain (by rfl) (fun w _ => rfl)) ?_
      simp only [Act.put, List.setIfInBounds_toArray, List.set_cons_zero, List.set_cons_succ]
      refine takeG 11 (some 43) (.slice as' ms cs') rfl rfl (by kernel_rfl) (by kernel_rfl) (by kernel_rfl) (fun _ _ _ h => h) (ans_plain (by rfl) (fun w _ => by unfold execOp; go_simp)) ?_
      simp only [Act.put, List.setIfInBounds_toArray, List.set_cons_zero, List.set_cons_succ]
      refine takeG 12 (some 44) (.int .i64 0) rfl rfl (by kernel_rfl) (by kernel_rfl) (by kernel_rfl) (fun _ _ _ h => h) (ans_plain (by rfl) (fun w _ => by unfold execOp; go_simp)) ?_
      simp only [Act.put, List.setIfInBounds_toArray, List.set_cons_zero, List.set_cons_succ]
      refine takeG 13 (some 9) (.slice as' ms cs') rfl rfl (by kernel_rfl) (by kernel_rfl) (by kernel_rfl) (fun _ _ _ h => h) (ans_plain (by rfl) (fun w _ => rfl)) ?_
      simp only [Act.put, List.setIfInBounds_toArray, List.set_cons_zero, List.set_cons_succ]
      refine takeG 14 (some 10) (.int .i64 0) rfl rfl (by kernel_rfl) (by kernel_rfl) (by kernel_rfl) (fun _ _ _ h => h) (ans_plain (by rfl) (fun w _ => rfl)) ?_
      simp only [Act.put, List.setIfInBounds_toArray, List.set_cons_zero, List.set_cons_succ]
      refine doneG (by kernel_rfl) fun v6 hg6 hs6 => ?_
      obtain ⟨S1, hS1⟩ : ∃ S, S = (SeaS.new a0).seal (keyB ke) (nonL 9 no) be te := ⟨_, rfl⟩
      obtain ⟨Z, hZ⟩ : ∃ Z, Z = (SeaS.new a0).made (keyB ke) (nonL 9 no) be te := ⟨_, rfl⟩
      have HO1 : Hid (S1.opens (keyB ke) (nonL 9 no) be Z = some te) := by rw [hS1, hZ]; exact SeaS.opens_own (SeaS.Ok.new a0) (keyB_length ke) (nonL_length 9 no) be te
      have HC1 : Hid (S1.count + S1.book.length ≤ 2) := by
        show _ ≤ _
        have h1 := (SeaS.new a0).seal_count (keyB ke) (nonL 9 no) be te
        have h2 := (SeaS.new a0).seal_len (keyB ke) (nonL 9 no) be te
        rw [hS1, h2]
        have h3 : (SeaS.new a0).count = 0 ∧ (SeaS.new a0).book.length = 0 := ⟨rfl, rfl⟩
        omega
      have T6 : Hid (StaS u0 v6 s U S1 M) := by
        rw [hS1]
        exact (ST.after seS (ST.ok.seal (by cases a0 <;> decide) _ _ _ _) kpS).grow hg6
      have Z6 : Hid (BA (fun j => ¬ U j) v6 as' ms cs' Z) := by
        rw [hZ]
        exact (oS.no ST.se.lt).below' hg6
      have N6 : Hid (BA (fun j => ¬ U j) v6 an 12 cn (nonL 9 no)) := (((NB.out.below' hq4).kp kpS fun j hj => hj).below' hg6)
      clear hS1 hZ oS seS kpS ST hg6 hs6 hs4 hq4 hg4 hqv3 Kv3 ov3 hbv3 hgAv3 hsAv3 NB T2 B2 G1 G3 G4
      go_wp2_with fail
      go_loopw [11] (fun i wr => ∃ (k : Nat) (S : SeaS), k ≤ len2 ∧ i = .int .i64 (k : Int) ∧ Hid (StaS u0 wr s U S M ∧ S.count + S.book.length ≤ 2 * k + 2 ∧ S.opens (keyB ke) (nonL 9 no) be Z = some te ∧ BA (fun j => ¬ U j) wr as' ms cs' Z ∧ BA (fun j => ¬ U j) wr an 12 cn (nonL 9 no))) (fun i _ => len2 - (intOf i).toNat)
      case atStart => exact ⟨0, S1, Nat.zero_le _, rfl, T6.out, HC1.out, HO1.out, Z6.out, N6.out⟩
      case round =>
        clear T6 HC1 HO1 Z6 N6
        obtain ⟨k, S, hk, rfl, HI⟩ := hrel
        have hc0 := HI.out.2.1
        by_cases hlt : k < len2
        · have i0 : (k : Int) < (len2 : Int) := by omega
          obtain ⟨x, hx⟩ : ∃ x, l2[k]? = some x := ⟨_, List.getElem?_eq_getElem (by rw [hl2]; exact hlt)⟩
          have qr : Below w.heap.size w wr := QW.out.trans (HI.out.1.bel.mono QW.out.size)
          obtain ⟨b, o, y, n, z, y', n', z', rfl, hlb, hrg, hC3, hC4, hfx⟩ := ActsA.at HW2.out qr hx
          have c1 : wr.cell? ⟨b, o + k * 7 + 1, none⟩ = some (.int .u8 (x.key : Int)) := hrg 1 _ rfl
          have c2 : wr.cell? ⟨b, o + k * 7 + 2, none⟩ = some (.int .u8 (x.nonce : Int)) := hrg 2 _ rfl
          have c3 : wr.cell? ⟨b, o + k * 7 + 3, none⟩ = some (.slice y n z) := hrg 3 _ rfl
          have c4 : wr.cell? ⟨b, o + k * 7 + 4, none⟩ = some (.slice y' n' z') := hrg 4 _ rfl
          have hlb' : b < wr.heap.size := lt_of_cell c1
          have hub : ¬ U b := fun hu => by have h1 := HI.out.1.base b hu; have h2 := QW.out.size; omega
          have hxk : x.key ≤ 255 := hfx.2.1
          have hxn : x.nonce ≤ 255 := hfx.2.2.1
          have hvx := HV.out x (List.mem_of_getElem? hx)
          have hn60 : n ≤ 60 := by rw [← hC3.1.len]; exact hvx.1
          have hn60' : n' ≤ 60 := by rw [← hC4.1.len]; exact hvx.2
          have BY : Hid (BA (fun j => ¬ U j) wr y n z x.beside) := HI.out.1.arg (hC3.below' QW.out).1
          have BT : Hid (BA (fun j => ¬ U j) wr y' n' z' x.text) := HI.out.1.arg (hC4.below' QW.out).1
          obtain ⟨kx, nx, bx, tx, hkx⟩ : ∃ kx nx bx tx, kx = x.key ∧ nx = x.nonce ∧ bx = x.beside ∧ tx = x.text := ⟨_, _, _, _, rfl, rfl, rfl, rfl⟩
          obtain ⟨e1, e2, e3, e4⟩ := hkx
          rw [← e1] at c1 hxk
          rw [← e2] at c2 hxn
          rw [← e3] at BY
          rw [← e4] at BT
          clear hx hrg hC3 hC4 hfx hvx e1 e2 e3 e4 qr
          go_wp2_with fail
          have F1 : ∀ u, Kp U wr u → u.cell? ⟨b, o + k * 7 + 1, none⟩ = some (.int .u8 (kx : Int)) := fun u hu => by rw [World.cell?_of_block (w := wr) (hu.block b hlb' hub)]; exact c1
          have F2 : ∀ u, Kp U wr u → u.cell? ⟨b, o + k * 7 + 2, none⟩ = some (.int .u8 (nx : Int)) := fun u hu => by rw [World.cell?_of_block (w := wr) (hu.block b hlb' hub)]; exact c2
          have F3 : ∀ u, Kp U wr u → u.cell? ⟨b, o + k * 7 + 3, none⟩ = some (.slice y n z) := fun u hu => by rw [World.cell?_of_block (w := wr) (hu.block b hlb' hub)]; exact c3
          have F4 : ∀ u, Kp U wr u → u.cell? ⟨b, o + k * 7 + 4, none⟩ = some (.slice y' n' z') := fun u hu => by rw [World.cell?_of_block (w := wr) (hu.block b hlb' hub)]; exact c4
          have TR : Hid (StaS u0 wr s U S M) := HI.out.1
          refine regionG (S := Kp U wr) (by kernel_rfl) (Kp.of_below (Below.refl _ wr).drew) ?_
          refine takeG 0 (some 51) (.pointer (some ⟨s, 0, none⟩)) rfl rfl (by kernel_rfl) (by kernel_rfl) (by kernel_rfl) (fun _ _ _ h => h) (ans_plain (by rfl) (fun w _ => rfl)) ?_
          simp only [Act.put, List.setIfInBounds_toArray, List.set_cons_zero, List.set_cons_succ]
          refine takeG 1 (some 52) (.slice (some ⟨b, o, none⟩) len2 cap2) rfl rfl (by kernel_rfl) (by kernel_rfl) (by kernel_rfl) (fun _ _ _ h => h) (ans_plain (by rfl) (fun w _ => rfl)) ?_
          simp only [Act.put, List.setIfInBounds_toArray, List.set_cons_zero, List.set_cons_succ]
          refine takeG 2 (some 53) (.int .i64 (k : Int)) rfl rfl (by kernel_rfl) (by kernel_rfl) (by kernel_rfl) (fun _ _ _ h => h) (ans_plain (by rfl) (fun w _ => rfl)) ?_
          simp only [Act.put, List.setIfInBounds_toArray, List.set_cons_zero, List.set_cons_succ]
          refine takeG 3 (some 54) (.pointer (some ⟨b, o + k * 7, none⟩)) rfl rfl (by kernel_rfl) (by kernel_rfl) (by kernel_rfl) (fun _ _ _ h => h) (ans_plain (by rfl) (fun w _ => by unfold execOp; go_simp)) ?_
          simp only [Act.put, List.setIfInBounds_toArray, List.set_cons_zero, List.set_cons_succ]
          refine takeG 4 (some 55) (.pointer (some ⟨b, o + k * 7 + 1, none⟩)) rfl rfl (by kernel_rfl) (by kernel_rfl) (by kernel_rfl) (fun _ _ _ h => h) (ans_plain (by rfl) (fun w _ => by unfold execOp; go_simp)) ?_
          simp only [Act.put, List.setIfInBounds_toArray, List.set_cons_zero, List.set_cons_succ]
          refine takeG 5 (some 56) (.int .u8 (kx : Int)) rfl rfl (by kernel_rfl) (by kernel_rfl) (by kernel_rfl) (fun _ _ _ h => h) (ans_plain (by rfl) (fun w h => by have hc := F1 w h; unfold execOp; go_simp)) ?_
          simp only [Act.put, List.setIfInBounds_toArray, List.set_cons_zero, List.set_cons_succ]
          refine takeG 7 (some 58) (.slice (some ⟨b, o, none⟩) len2 cap2) rfl rfl (by kernel_rfl) (by kernel_rfl) (by kernel_rfl) (fun _ _ _ h => h) (ans_plain (by rfl) (fun w _ => rfl)) ?_
          simp only [Act.put, List.setIfInBounds_toArray, List.set_cons_zero, List.set_cons_succ]
          refine takeG 8 (some 59) (.int .i64 (k : Int)) rfl rfl (by kernel_rfl) (by kernel_rfl) (by kernel_rfl) (fun _ _ _ h => h) (ans_plain (by rfl) (fun w _ => rfl)) ?_
          simp only [Act.put, List.setIfInBounds_toArray, List.set_cons_zero, List.set_cons_succ]
          refine takeG 9 (some 60) (.pointer (some ⟨b, o + k * 7, none⟩)) rfl rfl (by kernel_rfl) (by kernel_rfl) (by kernel_rfl) (fun _ _ _ h => h) (ans_plain (by rfl) (fun w _ => by unfold execOp; go_simp)) ?_
          simp only [Act.put, List.setIfInBounds_toArray, List.set_cons_zero, List.set_cons_succ]
          refine takeG 10 (some 61) (.pointer (some ⟨b, o + k * 7 + 2, none⟩)) rfl rfl (by kernel_rfl) (by kernel_rfl) (by kernel_rfl) (fun _ _ _ h => h) (ans_plain (by rfl) (fun w _ => by unfold execOp; go_simp)) ?_
          simp only [Act.put, List.setIfInBounds_toArray, List.set_cons_zero, List.set_cons_succ]
          refine takeG 11 (some 62) (.int .u8 (nx : Int)) rfl rfl (by kernel_rfl) (by kernel_rfl) (by kernel_rfl) (fun _ _ _ h => h) (ans_plain (by rfl) (fun w h => by have hc := F2 w h; unfold execOp; go_simp)) ?_
          simp only [Act.put, List.setIfInBounds_toArray, List.set_cons_zero, List.set_cons_succ]
          refine takeG 12 (some 63) (.int .u64 (nx : Int)) rfl rfl (by kernel_rfl) (by kernel_rfl) (by kernel_rfl) (fun _ _ _ h => h) (ans_plain (by rfl) (fun w _ => by unfold execOp; go_simp; rw [IntKind.wrap_u64]; omega)) ?_
          simp only [Act.put, List.setIfInBounds_toArray, List.set_cons_zero, List.set_cons_succ]
          refine takeG 14 (some 65) (.slice (some ⟨b, o, none⟩) len2 cap2) rfl rfl (by kernel_rfl) (by kernel_rfl) (by kernel_rfl) (fun _ _ _ h => h) (ans_plain (by rfl) (fun w _ => rfl)) ?_
          simp only [Act.put, List.setIfInBounds_toArray, List.set_cons_zero, List.set_cons_succ]
          refine takeG 15 (some 66) (.int .i64 (k : Int)) rfl rfl (by kernel_rfl) (by kernel_rfl) (by kernel_rfl) (fun _ _ _ h => h) (ans_plain (by rfl) (fun w _ => rfl)) ?_
          simp only [Act.put, List.setIfInBounds_toArray, List.set_cons_zero, List.set_cons_succ]
          refine takeG 16 (some 67) (.pointer (some ⟨b, o + k * 7, none⟩)) rfl rfl (by kernel_rfl) (by kernel_rfl) (by kernel_rfl) (fun _ _ _ h => h) (ans_plain (by rfl) (fun w _ => by unfold execOp; go_simp)) ?_
          simp only [Act.put, List.setIfInBounds_toArray, List.set_cons_zero, List.set_cons_succ]
          refine takeG 17 (some 68) (.pointer (some ⟨b, o + k * 7 + 3, none⟩)) rfl rfl (by kernel_rfl) (by kernel_rfl) (by kernel_rfl) (fun _ _ _ h => h) (ans_plain (by rfl) (fun w _ => by unfold execOp; go_simp)) ?_
          simp only [Act.put, List.setIfInBounds_toArray, List.set_cons_zero, List.set_cons_succ]
          refine takeG 18 (some 69) (.slice y n z) rfl rfl (by kernel_rfl) (by kernel_rfl) (by kernel_rfl) (fun _ _ _ h => h) (ans_plain (by rfl) (fun w h => by have hc := F3 w h; unfold execOp; go_simp)) ?_
          simp only [Act.put, List.setIfInBounds_toArray, List.set_cons_zero, List.set_cons_succ]
          refine takeG 19 (some 70) (.slice (some ⟨b, o, none⟩) len2 cap2) rfl rfl (by kernel_rfl) (by kernel_rfl) (by kernel_rfl) (fun _ _ _ h => h) (ans_plain (by rfl) (fun w _ => rfl)) ?_
          simp only [Act.put, List.setIfInBounds_toArray, List.set_cons_zero, List.set_cons_succ]
          refine takeG 20 (some 71) (.int .i64 (k : Int)) rfl rfl (by kernel_rfl) (by kernel_rfl) (by kernel_rfl) (fun _ _ _ h => h) (ans_plain (by rfl) (fun w _ => rfl)) ?_
          simp only [Act.put, List.setIfInBounds_toArray, List.set_cons_zero, List.set_cons_succ]
          refine takeG 21 (some 72) (.pointer (some ⟨b, o + k * 7, none⟩)) rfl rfl (by kernel_rfl) (by kernel_rfl) (by kernel_rfl) (fun _ _ _ h => h) (ans_plain (by rfl) (fun w _ => by unfold execOp; go_simp)) ?_
          simp only [Act.put, List.setIfInBounds_toArray, List.set_cons_zero, List.set_cons_succ]
          refine takeG 22 (some 73) (.pointer (some ⟨b, o + k * 7 + 4, none⟩)) rfl rfl (by kernel_rfl) (by kernel_rfl) (by kernel_rfl) (fun _ _ _ h => h) (ans_plain (by rfl) (fun w _ => by unfold execOp; go_simp)) ?_
          simp only [Act.put, List.setIfInBounds_toArray, List.set_cons_zero, List.set_cons_succ]
          refine takeG 23 (some 74) (.slice y' n' z') rfl rfl (by kernel_rfl) (by kernel_rfl) (by kernel_rfl) (fun _ _ _ h => h) (ans_plain (by rfl) (fun w h => by have hc := F4 w h; unfold execOp; go_simp)) ?_
          simp only [Act.put, List.setIfInBounds_toArray, List.set_cons_zero, List.set_cons_succ]
          refine callG 6 (some 57) 11 #[.tmp 56] #[5] #[.int .u8 (kx : Int)] rfl rfl rfl (by rfl) (by rfl) (by kernel_rfl) Tryd.call11 fun v3A hgAv3 hsAv3 => ?_
          refine (lKey12 v3A kx hxk).mono ?_
          rintro e v3 ⟨gv3, rfl, _, ov3, hbv3⟩
          have hqv3 : Below wr.heap.size wr v3 := Below.trans (Grows.ofDrew hgAv3) (hbv3.mono (Below.size (Grows.ofDrew hgAv3)))
          have Kv3 := ov3.no (U := U) (fun j hj => Nat.lt_of_lt_of_le (TR.out.se.lt j hj) (Below.size (Grows.ofDrew hgAv3)))
          refine ⟨_, rfl, hsAv3.trans (Kp.of_below hbv3), ?_⟩
          simp only [Act.put, List.setIfInBounds_toArray, List.set_cons_zero, List.set_cons_succ]
          refine callG 13 (some 64) 9 #[.tmp 63, .const (.int .u32 1)] #[32, 33] #[.int .u64 (nx : Int), .int .u32 1] rfl rfl rfl (by rfl) (by rfl) (by kernel_rfl) Tryd.call9 fun v4 hg4 hs4 => ?_
          refine (oSNonce v4 nx 1 (by omega) (by omega)).mono ?_
          rintro e v5 ⟨a5, m5, c5, rfl, o5, hb5⟩
          have l5 := o5.toBs.len
          rw [nonL_length] at l5
          subst l5
          have hq4 : Below wr.heap.size wr v4 := hqv3.trans (Below.mono hg4 hqv3.size)
          have hq5 : Below wr.heap.size wr v5 := hq4.trans (hb5.mono hq4.size)
          have N5 := o5.no (U := U) (fun j hj => Nat.lt_of_lt_of_le (TR.out.se.lt j hj) hq4.size)
          have K5 := (Kv3.below' hg4).below' hb5
          refine ⟨_, rfl, hs4.trans (Kp.of_below hb5), ?_⟩
          simp only [Act.put, List.setIfInBounds_toArray, List.set_cons_zero, List.set_cons_succ]
          refine callG 24 (some 75) 10 #[.tmp 51, .tmp 57, .tmp 64, .tmp 69, .tmp 74] #[29, 22, 22, 22, 22] #[.pointer (some ⟨s, 0, none⟩), .slice (some ⟨gv3, 0, none⟩) 32 32, .slice a5 12 c5, .slice y n z, .slice y' n' z'] rfl rfl rfl (by rfl) (by rfl) (by kernel_rfl) Tryd.call10 fun v6 hg6 hs6 => ?_
          have hq6 : Below wr.heap.size wr v6 := hq5.trans (Below.mono hg6 hq5.size)
          have ST := TR.out.grow hq6
          refine (oSSeal v6 ST.se ST.ok (K5.below' hg6) (N5.below' hg6) (BY.out.below' hq6) (BT.out.below' hq6) (by omega) (by omega) (by omega)).mono ?_
          rintro e v7 ⟨at', mt, ct, rfl, oT, seT, kpT⟩
          refine ⟨_, rfl, hs6.trans kpT, ?_⟩
          simp only [Act.put, List.setIfInBounds_toArray, List.set_cons_zero, List.set_cons_succ]
          refine doneG (by kernel_rfl) fun v8 hg8 hs8 => ?_
          have hc1 := S.seal_count (keyB kx) (nonL nx 1) bx tx
          have hc2 := S.seal_len (keyB kx) (nonL nx 1) bx tx
          have HI8 : Hid (StaS u0 v8 s U (S.seal (keyB kx) (nonL nx 1) bx tx) M ∧ (S.seal (keyB kx) (nonL nx 1) bx tx).count + (S.seal (keyB kx) (nonL nx 1) bx tx).book.length ≤ 2 * (k + 1) + 2 ∧ (S.seal (keyB kx) (nonL nx 1) bx tx).opens (keyB ke) (nonL 9 no) be Z = some te ∧ BA (fun j => ¬ U j) v8 as' ms cs' Z ∧ BA (fun j => ¬ U j) v8 an 12 cn (nonL 9 no)) :=
            ⟨(ST.after seT (ST.ok.seal (by omega) _ _ _ _) kpT).grow hg8, by omega, SeaS.opens_stays HI.out.2.2.1 _ _ _ _, ((HI.out.2.2.2.1.below' hq6).kp kpT fun j hj => hj).below' hg8, ((HI.out.2.2.2.2.below' hq6).kp kpT fun j hj => hj).below' hg8⟩
          clear HI TR ST oT seT kpT hg8 hs8 hg6 hs6 hq6 hq5 hq4 hg4 hs4 hb5 o5 N5 K5 Kv3 ov3 hbv3 hgAv3 hsAv3 hqv3 BY BT F1 F2 F3 F4 c1 c2 c3 c4 hc0 hc1 hc2
          go_wp2_with fail
          go_roundw
          case rel => exact ⟨k + 1, S.seal (keyB kx) (nonL nx 1) bx tx, by omega, by go_num, HI8.out⟩
          case measure => simp [intOf]; omega
        · have i0 : ¬ (k : Int) < (len2 : Int) := by omega
          have TR : Hid (StaS u0 wr s U S M) := HI.out.1
          have B2 : Hid (Blk wr x4 (ok12 ⟨kd, ke, no, be, te, tu, sh⟩ p m q p' m' q') 25) := BX.out.below TR.out.bel BX.out.lt
          go_wp2_with fail
          have G1 : ∀ u, Kp U wr u → u.cell? ⟨x4, 1, none⟩ = some (.int .u8 (ke : Int)) := fun u hu => (hu.blk B2.out hnx).cell 1
          have G3 : ∀ u, Kp U wr u → u.cell? ⟨x4, 3, none⟩ = some (.slice p m q) := fun u hu => (hu.blk B2.out hnx).cell 3
          refine regionG (S := Kp U wr) (by kernel_rfl) (Kp.of_below (Below.refl _ wr).drew) ?_
          refine takeG 0 (some 77) (.pointer (some ⟨s, 0, none⟩)) rfl rfl (by kernel_rfl) (by kernel_rfl) (by kernel_rfl) (fun _ _ _ h => h) (ans_plain (by rfl) (fun w _ => rfl)) ?_
          simp only [Act.put, List.setIfInBounds_toArray, List.set_cons_zero, List.set_cons_succ]
          refine takeG 1 (some 78) (.pointer (some ⟨x4, 1, none⟩)) rfl rfl (by kernel_rfl) (by kernel_rfl) (by kernel_rfl) (fun _ _ _ h => h) (ans_plain (by rfl) (fun w _ => by unfold execOp; go_simp)) ?_
          simp only [Act.put, List.setIfInBounds_toArray, List.set_cons_zero, List.set_cons_succ]
          refine takeG 2 (some 79) (.int .u8 (ke : Int)) rfl rfl (by kernel_rfl) (by kernel_rfl) (by kernel_rfl) (fun _ _ _ h => h) (ans_plain (by rfl) (fun w h => by have hc := G1 w h; unfold execOp; go_simp)) ?_
          simp only [Act.put, List.setIfInBounds_toArray, List.set_cons_zero, List.set_cons_succ]
          refine takeG 4 (some 81) (.slice an 12 cn) rfl rfl (by kernel_rfl) (by kernel_rfl) (by kernel_rfl) (fun _ _ _ h => h) (ans_plain (by rfl) (fun w _ => rfl)) ?_
          simp only [Act.put, List.setIfInBounds_toArray, List.set_cons_zero, List.set_cons_succ]
          refine takeG 5 (some 82) (.pointer (some ⟨x4, 3, none⟩)) rfl rfl (by kernel_rfl) (by kernel_rfl) (by kernel_rfl) (fun _ _ _ h => h) (ans_plain (by rfl) (fun w _ => by unfold execOp; go_simp)) ?_
          simp only [Act.put, List.setIfInBounds_toArray, List.set_cons_zero, List.set_cons_succ]
          refine takeG 6 (some 83) (.slice p m q) rfl rfl (by kernel_rfl) (by kernel_rfl) (by kernel_rfl) (fun _ _ _ h => h) (ans_plain (by rfl) (fun w h => by have hc := G3 w h; unfold execOp; go_simp)) ?_
          simp only [Act.put, List.setIfInBounds_toArray, List.set_cons_zero, List.set_cons_succ]
          refine takeG 7 (some 84) (.slice as' ms cs') rfl rfl (by kernel_rfl) (by kernel_rfl) (by kernel_rfl) (fun _ _ _ h => h) (ans_plain (by rfl) (fun w _ => rfl)) ?_
          simp only [Act.put, List.setIfInBounds_toArray, List.set_cons_zero, List.set_cons_succ]
          refine callG 3 (some 80) 11 #[.tmp 79] #[5] #[.int .u8 (ke : Int)] rfl rfl rfl (by rfl) (by rfl) (by kernel_rfl) Tryd.call11 fun v3A hgAv3 hsAv3 => ?_
          refine (lKey12 v3A ke hke).mono ?_
          rintro e v3 ⟨gv3, rfl, _, ov3, hbv3⟩
          have hqv3 : Below wr.heap.size wr v3 := Below.trans (Grows.ofDrew hgAv3) (hbv3.mono (Below.size (Grows.ofDrew hgAv3)))
          have Kv3 := ov3.no (U := U) (fun j hj => Nat.lt_of_lt_of_le (TR.out.se.lt j hj) (Below.size (Grows.ofDrew hgAv3)))
          refine ⟨_, rfl, hsAv3.trans (Kp.of_below hbv3), ?_⟩
          simp only [Act.put, List.setIfInBounds_toArray, List.set_cons_zero, List.set_cons_succ]
          refine callG 8 (some 85) 12 #[.tmp 77, .tmp 80, .tmp 81, .tmp 83, .tmp 84] #[29, 22, 22, 22, 22] #[.pointer (some ⟨s, 0, none⟩), .slice (some ⟨gv3, 0, none⟩) 32 32, .slice an 12 cn, .slice p m q, .slice as' ms cs'] rfl rfl rfl (by rfl) (by rfl) (by kernel_rfl) Tryd.call12 fun v4 hg4 hs4 => ?_
          have hq4 : Below wr.heap.size wr v4 := hqv3.trans (Below.mono hg4 hqv3.size)
          have ST := TR.out.grow hq4
          have CO := oSOpen v4 ST.se (Kv3.below' hg4).1 (HI.out.2.2.2.2.below' hq4).1 (ST.arg (H3.out.below' QW.out).1).1 (HI.out.2.2.2.1.below' hq4).1 (by omega) (by omega)
          rw [HI.out.2.2.1] at CO
          refine CO.mono ?_
          rintro e v5 ⟨ax, mx, cx, rfl, oX, seX, kpX⟩
          refine ⟨_, rfl, hs4.trans kpX, ?_⟩
          simp only [Act.put, List.setIfInBounds_toArray, List.set_cons_zero, List.set_cons_succ, Option.isSome_some, if_true]
          refine takeG 9 (some 76) (.tuple #[.slice ax mx cx, .int .i64 0]) rfl rfl (by kernel_rfl) (by kernel_rfl) (by kernel_rfl) (fun _ _ _ h => h) (ans_plain (by rfl) (fun w _ => rfl)) ?_
          simp only [Act.put, List.setIfInBounds_toArray, List.set_cons_zero, List.set_cons_succ]
          refine takeG 10 (some 86) (.slice ax mx cx) rfl rfl (by kernel_rfl) (by kernel_rfl) (by kernel_rfl) (fun _ _ _ h => h) (ans_plain (by rfl) (fun w _ => by unfold execOp; go_simp)) ?_
          simp only [Act.put, List.setIfInBounds_toArray, List.set_cons_zero, List.set_cons_succ]
          refine takeG 11 (some 87) (.int .i64 0) rfl rfl (by kernel_rfl) (by kernel_rfl) (by kernel_rfl) (fun _ _ _ h => h) (ans_plain (by rfl) (fun w _ => by unfold execOp; go_simp)) ?_
          simp only [Act.put, List.setIfInBounds_toArray, List.set_cons_zero, List.set_cons_succ]
          refine takeG 12 (some 12) (.slice ax mx cx) rfl rfl (by kernel_rfl) (by kernel_rfl) (by kernel_rfl) (fun _ _ _ h => h) (ans_plain (by rfl) (fun w _ => rfl)) ?_
          simp only [Act.put, List.setIfInBounds_toArray, List.set_cons_zero, List.set_cons_succ]
          refine takeG 13 (some 13) (.int .i64 0) rfl rfl (by kernel_rfl) (by kernel_rfl) (by kernel_rfl) (fun _ _ _ h => h) (ans_plain (by rfl) (fun w _ => rfl)) ?_
          simp only [Act.put, List.setIfInBounds_toArray, List.set_cons_zero, List.set_cons_succ]
          refine doneG (by kernel_rfl) fun v6 hg6 hs6 => ?_
          have T6 : Hid (StaS u0 v6 s U (S.opened (keyB ke) (nonL 9 no) be Z) M) := (ST.after seX (ST.ok.opened _ _ _ _) kpX).grow hg6
          have X6 : Hid (Bs v6 ax mx cx te) := (oX.below' hg6).1
          have B6 := BX.out.below T6.out.bel BX.out.lt
          have c4 : v6.cell? ⟨x4, 4, none⟩ = some (.slice p' m' q') := B6.cell 4
          have l6 : x4 < v6.heap.size := lt_of_cell c4
          have E6 : Hid (Bs v6 p' m' q' te) := (H4.out.below' QW.out).1.below T6.out.bel (Nat.le_refl _)
          have FB : Hid (Below w.heap.size w v6) := QW.out.trans (T6.out.bel.mono QW.out.size)
          have hms : (ms : Int) = (m' : Int) + 16 := by omega
          clear CO oX seX kpX ST hg6 hs6 hq4 hg4 hs4 hqv3 Kv3 ov3 hbv3 hgAv3 hsAv3 TR B2 G1 G3 HI B6
          go_wp2_with fail
          refine (sameT v6 X6.out E6.out).mono ?_
          rintro e vA ⟨rfl, hbA⟩
          have FA := FB.out.trans (hbA.mono FB.out.size)
          clear T6 X6 E6 hbA c4
          go_wp2_with fail
          refine (lWorks12 vA).mono ?_
          rintro e vB ⟨rfl, hbB⟩
          go_wp2_with fail
          go_ret
          exact ⟨rfl, FA.trans (hbB.mono FA.size)⟩

set_option maxRecDepth 100000 in
theorem contract (H : Type) (enc : TypeId × Value → H) (W : World) (base : Nat) (args : Array Value) (ds gs : List (DataW H)) (before : List MemPlace)
    (hval0 : ∀ (j : Nat) t v, Tryd.f3.params[j]? = some t → args[j]? = some v → Value.okWide Tryd.prog W .any base t v)
    (hW : DataW.Whole enc Tryd.prog Tryd.f3.params.toList Rows.sealBackSpec.vars false W args.toList ds gs before) (hL : laidMetH Tryd.prog Rows.sealBackRow.laid W) :
    Calls Tryd.prog 3 args W fun e W' => ∃ v, e = .returned v ∧ Rows.sealBackSpec.post enc Tryd.prog Tryd.f3 false true false false W args v W' := by
  have hval : ∀ (j : Nat) t v, Tryd.f3.params[j]? = some t → args[j]? = some v → Value.okWide Tryd.prog W .any base t v := hval0
  have hW' := hW
  obtain ⟨p, q, hA0, hV, rfl, hfz, hnd⟩ := hW
  have hA : DataW.TrodAll enc Tryd.prog W 0 (fun _ => true) true Tryd.f3.params.toList args.toList ds p := hA0
  rw [Tryd.params3] at hA hval
  obtain ⟨v0, vs0, d0, ds0, p0, q0, hargs, rfl, rfl, h0, r0⟩ := trodAll_cons hA
  obtain ⟨v1, vs1, d1, ds1, p1, q1, rfl, rfl, rfl, h1, r1⟩ := trodAll_cons r0
  obtain ⟨v2, vs2, d2, ds2, p2, q2, rfl, rfl, rfl, h2, r2⟩ := trodAll_cons r1
  obtain ⟨rfl, rfl, rfl⟩ := trodAll_nil r2
  obtain rfl : args = #[v0, v1, v2] := by cases args; simp_all
  obtain ⟨rfl, rfl⟩ := trodVars_none hV
  obtain ⟨a0, rfl, rfl, rfl⟩ := open_bool Tryd.underlying4 (hval 0 4 v0 rfl rfl) h0
  obtain ⟨x1, rfl⟩ := okWide_op12 (hval 1 25 v1 rfl rfl)
  have k1 := h1
  have lt1 : ∀ x ∈ p1, x.block < W.heap.size := by obtain ⟨m, hm⟩ := k1; exact DataW.trod_lt m _ _ _ hm
  obtain ⟨l1, w1⟩ : ∃ l, OpArg W x1 l := by
    obtain ⟨fuel, hf⟩ := h1
    exact oparg_of_trod hf
  obtain ⟨a2, len2, cap2, rfl⟩ := okWide_slice Tryd.underlying26 (hval 2 26 v2 rfl rfl)
  have k2 := h2
  have lt2 : ∀ x ∈ p2, x.block < W.heap.size := by obtain ⟨m, hm⟩ := k2; exact DataW.trod_lt m _ _ _ hm
  obtain ⟨l2, w2⟩ : ∃ l, Acts12 W a2 len2 cap2 l := by
    obtain ⟨fuel, hf⟩ := h2
    exact acts12_of_trod hf
  clear hA0 hval0
  refine (walk a0 x1 l1 a2 len2 cap2 l2 W (kon hL) w1 w2).mono fun e W' ⟨he, bel⟩ => ?_
  subst he
  exact ⟨_, rfl, _, _, _, [], _, [], hW', trodAll_mk1 (shut_bool Tryd.underlying4 _), (trodAll_cons_mk (shut_bool Tryd.underlying4 a0) (trodAll_cons_mk (Below.trod laidOut (by kernel_rfl) (of_decide_eq_true (by kernel_rfl)) k1 bel lt1) (trodAll_cons_mk (Below.trod laidOut (by kernel_rfl) (of_decide_eq_true (by kernel_rfl)) k2 bel lt2) trodAll_mk0))), rfl, bel.frame _, fun h => by cases h⟩

/-- A world for the witness: the settled one, the constants as their initialiser lays them. -/
noncomputable def laidWorld (os : Os) : World :=
  { World.holding Tryd.prog os ⟨#[], #[], []⟩ with heap := (World.holding Tryd.prog os ⟨#[], #[], []⟩).heap.modify 0 fun
      | .cells _ t frozen => .cells (ws sKs).toArray t frozen
      | o => o }
set_option maxRecDepth 100000 in
theorem laid_met (os : Os) : laidMet Tryd.prog Rows.sealBackRow.laid ((laidWorld os).forCall (fun _ _ => 0) ⟨#[], #[.bool false, .agg #[.int .i64 0, .int .u8 0, .int .u8 0, .slice none 0 0, .slice none 0 0, .int .u16 0, .bool false], .slice none 0 0], []⟩).memory :=
  laidMet_of_run' 8 (by kernel_rfl) (by kernel_rfl)
set_option maxRecDepth 100000 in
theorem reads (os : Os) {H : Type} (enc : TypeId × Value → H) : ∃ places, DataW.whole enc Tryd.prog ((laidWorld os).forCall (fun _ _ => 0) ⟨#[], #[.bool false, .agg #[.int .i64 0, .int .u8 0, .int .u8 0, .slice none 0 0, .slice none 0 0, .int .u16 0, .bool false], .slice none 0 0], []⟩).memory Tryd.f3.params.toList Rows.sealBackSpec.vars false (#[.bool false, .agg #[.int .i64 0, .int .u8 0, .int .u8 0, .slice none 0 0, .slice none 0 0, .int .u16 0, .bool false], .slice none 0 0] : Array Value).toList 8 = some ([.lit (.bool false), .agg [.lit (.int .i64 0), .lit (.int .u8 0), .lit (.int .u8 0), .nil, .nil, .lit (.int .u16 0), .lit (.bool false)], .nil], [], places) :=
  ⟨[], by kernel_rfl⟩

set_option maxRecDepth 100000 in
theorem lifted (os : Os) (started : os.Started) (H : Type) (enc : TypeId × Value → H) (F : Stop.Interp) :
    ReturnsInHanded {} Tryd.checked os 3 .any ((OpenSpec.ofChange Rows.sealBackSpec).preRow enc Tryd.prog Tryd.f3 Rows.sealBackRow.domain false Rows.sealBackRow.laid) (((OpenSpec.ofChange Rows.sealBackSpec).at F).post enc Tryd.prog Tryd.f3 false true false false) := by
  obtain ⟨places, hx⟩ := reads os enc
  refine returnsInHanded_of_row (C := Tryd.checked) (s := OpenSpec.ofChange Rows.sealBackSpec) own started (by kernel_rfl) Tryd.func3
    (witness_row_at (enc := enc) (C := Tryd.checked) false (laidWorld os) #[.bool false, .agg #[.int .i64 0, .int .u8 0, .int .u8 0, .slice none 0 0, .slice none 0 0, .int .u16 0, .bool false], .slice none 0 0] rfl (by kernel_rfl) (by kernel_rfl) (by kernel_rfl)
      (OpenSpec.preRow_of_cond 8 hx (by kernel_rfl) (fun k hk => by cases hk) (by kernel_rfl) (laid_met os))) ?_
  intro W base args ds gs before hval hW _ _ _ hL _ _
  exact contract H enc W base args ds gs before hval hW hL

theorem over : Rows.sealBackRow.holds Tryd.pinned (OpenSpec.ofChange Rows.sealBackSpec) :=
  OpenClaim.holds_of_cond 3 Tryd.f3 rfl rfl rfl rfl rfl rfl rfl ⟨rfl, rfl, rfl, rfl, rfl⟩ rfl rfl rfl rfl rfl (by kernel_rfl) Tryd.func3 (by kernel_rfl)
    (of_decide_eq_true (by kernel_rfl)) (by unfold Func.isWrapper; first | (rw [if_pos (by decide +kernel)]; kernel_rfl) | (rw [if_neg (by decide +kernel)]; exact ⟨rfl, rfl⟩))
    (fun os started H enc _ F => by rw [OpenClaim.pre_eq_preRow]; exact lifted os started H enc F)

/-- No parameter wants a stand-in. -/
theorem plain (f : FuncId) (fn : Func) (hf : Tryd.pinned.checked.prog.funcNamed "deedbox/deedboxlaw12.SealBack" = some f) (hfn : Tryd.pinned.checked.prog.funcs[f]? = some fn) :
    false = Tryd.pinned.checked.prog.looks [] ∧ ∀ (j : Nat) t, fn.params[j]? = some t → Tryd.pinned.checked.prog.wantsStandIn t = false := by
  obtain rfl : f = 3 := Option.some.inj ((show Tryd.prog.funcNamed "deedbox/deedboxlaw12.SealBack" = some 3 by kernel_rfl).symm.trans hf) |>.symm
  obtain rfl : fn = Tryd.f3 := (Option.some.inj (Tryd.func3.symm.trans hfn)).symm
  refine ⟨by kernel_rfl, fun j t ht => ?_⟩
  rw [Tryd.params3] at ht
  have hm := Array.mem_of_getElem? ht
  simp only [List.mem_toArray, List.mem_cons, List.not_mem_nil, or_false] at hm
  rcases hm with rfl | rfl | rfl
  · exact (show Tryd.prog.wantsStandIn 4 = false by kernel_rfl)
  · exact (show Tryd.prog.wantsStandIn 25 = false by kernel_rfl)
  · exact (show Tryd.prog.wantsStandIn 26 = false by kernel_rfl)
end SealBackLaw

/-- The statement: the card. -/
theorem sealBack_holds : Rows.SealBackCardSaid :=
  Claim7.holds_tied_plain_at .later [] _ _ _ _ SealBackLaw.over (fun _ h => by cases h) (by kernel_rfl) (fun _ h => by cases h) sealBack_row_tie rfl ⟨rfl, rfl⟩ (by kernel_rfl) rfl SealBackLaw.plain (by kernel_rfl)
#print axioms sealBack_holds
end Go.Proofs.YtjpejheipkfanaaDoor
