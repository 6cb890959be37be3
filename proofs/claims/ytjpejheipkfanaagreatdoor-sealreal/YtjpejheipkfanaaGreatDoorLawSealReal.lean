/-
  Proved: for any acts the statement SealReal of layer 12 answers true and leaves its arguments as they were. Conditions beside the statement's own: none; the card ties sha.roundConstants to the pruned copy of the program's text.
-/
import Derived.Test.YtjpejheipkfanaaGreatDoorRows
import Derived.Test.YtjpejheipkfanaaGreatDoorCards
import Derived.Test.YtjpejheipkfanaaGreatDoorTie
import Derived.Test.YtjpejheipkfanaaGreatDoorG31
import Derived.Below
import Derived.ChangeOld
import Derived.Deep.DeepHandedRow
import Derived.Lib.LaidTab
namespace Go.Proofs.YtjpejheipkfanaaGreatDoor
namespace SealRealLaw
open Go.ChangeShapes Go.WideShapes Go.ChangeAt Go.RowKit
open Go.ChangeMaps (open_string shut_string)
set_option linter.unusedVariables false

theorem own : ownKnob Tryz.prog.godebug = none := by kernel_rfl
theorem laidOut : laidOutB Tryz.prog = true := by kernel_rfl
theorem gTab : Tryz.prog.globalNamed "deedbox/sha.roundConstants" = some 0 := by kernel_rfl
theorem gTabType : (Tryz.prog.globals[0]?).map (·.type) = some 183 := by kernel_rfl
theorem cellsT : Tryz.prog.cellsOf 183 = 64 := by kernel_rfl
theorem cellsE : Tryz.prog.cellsOf 45 = 1 := by kernel_rfl

/-- What the row's list gives: the constants lie in their variable. -/
theorem table {W : World} (h : laidMetH Tryz.prog Rows.sealRealRow.laid W) : Lib.TabIs Tryz.prog W "deedbox/sha.roundConstants" .u32 (sKs.map fun x => (x.toNat : Int)) :=
  Lib.tabIs_of_head (rest := []) gTab gTabType Tryz.underlying183 Tryz.underlying45 cellsE cellsT h
theorem kon {W : World} (h : laidMetH Tryz.prog Rows.sealRealRow.laid W) : Kon W := fun j v hv => by
  have hj : j < sKs.length := by have := (List.getElem?_eq_some_iff.1 hv).1; rwa [ws_length] at this
  have hc := (table h).cell gTab j (by rw [List.length_map]; exact hj)
  rw [Nat.zero_add, hc, ← hv]
  simp [ws, hj]

set_option maxRecDepth 100000 in
set_option maxHeartbeats 4000000 in
theorem walk (a0 : Option Addr) (len0 cap0 : Nat) (l0 : List Op12) (w : World) (hK : Kon w) (w0 : Acts12 w a0 len0 cap0 l0) :
    Calls Tryz.prog 4 #[.slice a0 len0 cap0] w fun e w' => e = .returned (.bool true) ∧ Below w.heap.size w w' := by
  have HW : Hid (Acts12 w a0 len0 cap0 l0) := w0
  have hm0 := Sl.cap w0
  have hl0 : l0.length = len0 := Sl.len w0
  have HKK : Hid (Kon w) := hK
  clear w0 hK
  have hbC : Tryz.prog.built 31 [] = some #[.bool false, .slice none 0 0, .slice none 0 0, .int .u64 0, .bool false, .bool false] := by kernel_rfl
  go_enter Tryz.func4, Tryz.ntmps4
  go_wp2_with fail
  refine (lLight12 w HW.out 12 (by omega) (by omega)).mono ?_
  rintro e u1 ⟨v, rfl, hv, rfl⟩
  cases v with
  | false =>
    go_wp2_with fail
    refine (lWorks12 w).mono ?_
    rintro e wz ⟨rfl, hbz⟩
    go_wp2_with fail
    go_ret
    exact ⟨rfl, hbz⟩
  | true =>
    obtain ⟨hn0, hv0⟩ := hv rfl
    have HV : Hid (∀ o ∈ l0, o.beside.length ≤ 60 ∧ o.text.length ≤ 60) := hv0
    have hn0' : len0 ≤ 12 := by omega
    clear hv hv0 hn0
    go_wp2_with fail
    refine (oSNew false w).mono ?_
    rintro e v1 ⟨s, U, M, rfl, hs1, hU1, hb1⟩
    have T1 : Hid (LoI w (v1.alloc (.cells #[.bool false, .slice none 0 0, .slice none 0 0, .int .u64 0, .bool false, .bool false] 31)) U s v1.heap.size M (SeaS.new false) ⟨none, 0, 0, none, 0, 0⟩ none 0 0 [] 0) := LoI.first hs1 hU1 hb1
    clear hs1 hU1 hb1
    go_wp2_with fail
    obtain ⟨x4, hx4⟩ : ∃ x, x = v1.heap.size := ⟨_, rfl⟩
    rw [← hx4] at T1 ⊢
    clear hx4 hbC
    generalize v1.alloc (.cells #[.bool false, .slice none 0 0, .slice none 0 0, .int .u64 0, .bool false, .bool false] 31) = v2 at *
    go_loopw [5, 6, 7] (fun la ok i wr => ∃ (t : Nat) (S : SeaS) (d : Du) (al : Option Addr) (ml cl : Nat) (ll : List UInt8), t ≤ len0 ∧ la = .slice al ml cl ∧ ok = .bool true ∧ i = .int .i64 (t : Int) ∧ Hid (LoI w wr U s x4 M S d al ml cl ll t ∧ True)) (fun la ok i _ => len0 - (intOf i).toNat)
    case atStart => exact ⟨0, _, _, none, 0, 0, [], Nat.zero_le _, rfl, rfl, rfl, T1.out, trivial⟩
    case round =>
      clear T1
      obtain ⟨t, S, d, al, ml, cl, ll, ht, rfl, rfl, rfl, HI⟩ := hrel
      by_cases hlt : t < len0
      · have i0 : (t : Int) < (len0 : Int) := by omega
        obtain ⟨x, hx⟩ : ∃ x, l0[t]? = some x := ⟨_, List.getElem?_eq_getElem (by rw [hl0]; exact hlt)⟩
        obtain ⟨b, o, y, n, z, y', n', z', rfl, hlb, hrg, hC3, hC4, hfx⟩ := ActsA.at HW.out HI.out.1.bel hx
        have hvx := HV.out x (List.mem_of_getElem? hx)
        have hn60 : n ≤ 60 := by rw [← hC3.1.len]; exact hvx.1
        have hn60' : n' ≤ 60 := by rw [← hC4.1.len]; exact hvx.2
        have BY : Hid (BA (fun j => ¬ U j ∧ j ≠ x4) wr y n z x.beside) := HI.out.1.arg hC3
        have BT : Hid (BA (fun j => ¬ U j ∧ j ≠ x4) wr y' n' z' x.text) := HI.out.1.arg hC4
        have HFX : Hid x.fit := hfx
        have hlb' : b < wr.heap.size := by have := HI.out.1.bel.size; omega
        have hub : ¬ U b := fun hu => by have := HI.out.1.base b hu; omega
        have HRG : Hid (wr.rangeAt b (o + t * 7) (ok12 x y n z y' n' z')) := hrg
        have KNR : Hid (Kon wr) := HKK.out.below HI.out.1.bel HKK.out.lt
        clear hx hrg hC3 hC4 hfx hvx
        go_wp2_with fail
        refine regionE (S := Kp U wr) 12 (by kernel_rfl) (Kp.of_below (Below.refl _ wr).drew) ?_
        refine takeT 0 (some 23) (.pointer (some ⟨s, 0, none⟩)) rfl rfl (by kernel_rfl) (fun _ _ _ h => h) (ans_plain (by rfl) (fun w _ => rfl)) ?_
        simp only [Act.put, List.setIfInBounds_toArray, List.set_cons_zero, List.set_cons_succ]
        refine takeT 1 (some 24) (.agg (rsC S d).toArray) rfl rfl (by kernel_rfl) (fun _ _ _ h => h) (ans_row 31 (.tmp 4) _ 6 rfl (by rfl) x4 0 rfl (rsC S d) (fun u hu => (hu.blk HI.out.1.blk HI.out.1.nx).whole) Tryz.underlying31 rfl rfl sizeRS) ?_
        simp only [Act.put, List.setIfInBounds_toArray, List.set_cons_zero, List.set_cons_succ]
        refine takeT 2 (some 25) (.slice (some ⟨b, o, none⟩) len0 cap0) rfl rfl (by kernel_rfl) (fun _ _ _ h => h) (ans_plain (by rfl) (fun w _ => rfl)) ?_
        simp only [Act.put, List.setIfInBounds_toArray, List.set_cons_zero, List.set_cons_succ]
        refine takeT 3 (some 26) (.int .i64 (t : Int)) rfl rfl (by kernel_rfl) (fun _ _ _ h => h) (ans_plain (by rfl) (fun w _ => rfl)) ?_
        simp only [Act.put, List.setIfInBounds_toArray, List.set_cons_zero, List.set_cons_succ]
        refine takeT 4 (some 27) (.pointer (some ⟨b, o + t * 7, none⟩)) rfl rfl (by kernel_rfl) (fun _ _ _ h => h) (ans_plain (by rfl) (fun w _ => by unfold execOp; go_simp)) ?_
        simp only [Act.put, List.setIfInBounds_toArray, List.set_cons_zero, List.set_cons_succ]
        refine takeT 5 (some 28) (.agg (ok12 x y n z y' n' z').toArray) rfl rfl (by kernel_rfl) (fun _ _ _ h => h) (ans_row 37 (.tmp 27) _ 7 rfl (by rfl) b (o + t * 7) rfl (ok12 x y n z y' n' z') (fun u hu j v hj => by rw [World.cell?_of_block (w := wr) (hu.block b hlb' hub)]; exact HRG.out j v hj) Tryz.underlying37 rfl rfl sizeOp12) ?_
        simp only [Act.put, List.setIfInBounds_toArray, List.set_cons_zero, List.set_cons_succ]
        refine takeT 6 (some 29) (.slice al ml cl) rfl rfl (by kernel_rfl) (fun _ _ _ h => h) (ans_plain (by rfl) (fun w _ => rfl)) ?_
        simp only [Act.put, List.setIfInBounds_toArray, List.set_cons_zero, List.set_cons_succ]
        refine callE 7 (some 30) 8 #[.tmp 23, .tmp 24, .tmp 28, .tmp 29] #[25, 31, 37, 32] #[.pointer (some ⟨s, 0, none⟩), rsV S d, .agg (ok12 x y n z y' n' z').toArray, .slice al ml cl] rfl rfl rfl (by rfl) (by rfl) (by kernel_rfl) (by kernel_rfl) Tryz.call8 fun u1 hg1 hs1 => ?_
        have q1 : Below wr.heap.size wr u1 := Grows.ofDrew hg1
        have L1 := HI.out.1.grow q1
        refine (lDo12 u1 (KNR.out.below q1 KNR.out.lt) (L1.doI (by omega)) x HFX.out (BY.out.below' q1) (BT.out.below' q1) L1.last hn60 hn60' L1.zl).mono ?_
        rintro _ u2 ⟨S', d', a2, m2, c2, l2, rfl, hN, hse, hrs, hba, hm2, hk2⟩
        refine ⟨_, rfl, hs1.trans hk2, ?_⟩
        simp only [Act.put, List.setIfInBounds_toArray, List.set_cons_zero, List.set_cons_succ]
        refine takeT 8 (some 22) (.tuple #[rsV S' d', .slice a2 m2 c2, .bool true]) rfl rfl (by kernel_rfl) (fun _ _ _ h => h) (ans_plain (by rfl) (fun w _ => rfl)) ?_
        simp only [Act.put, List.setIfInBounds_toArray, List.set_cons_zero, List.set_cons_succ]
        refine takeT 9 (some 31) (rsV S' d') rfl rfl (by kernel_rfl) (fun _ _ _ h => h) (ans_plain (by rfl) (fun w _ => by unfold execOp; go_simp)) ?_
        simp only [Act.put, List.setIfInBounds_toArray, List.set_cons_zero, List.set_cons_succ]
        refine takeP 10 (some 32) (.slice a2 m2 c2) rfl rfl (by kernel_rfl) (fun _ _ _ h => h) (by rfl) (fun w => by unfold execOp; go_simp) ?_
        simp only [Act.put, List.setIfInBounds_toArray, List.set_cons_zero, List.set_cons_succ]
        refine takeP 11 (some 33) (.bool true) rfl rfl (by kernel_rfl) (fun _ _ _ h => h) (by rfl) (fun w => by unfold execOp; go_simp) ?_
        simp only [Act.put, List.setIfInBounds_toArray, List.set_cons_zero, List.set_cons_succ]
        refine goE (by kernel_rfl) (by kernel_rfl) (by kernel_rfl) fun u3 hg3 hs3 => ?_
        have q3 : Below u2.heap.size u2 u3 := hg3
        have B2 := hk2.blk L1.blk L1.nx
        refine opStR 12 31 (.tmp 4) (.tmp 31) 6 rfl rfl rfl rfl x4 (rsC S d) (rsC S' d') 31 (B2.below q3 B2.lt) rfl rfl (rsC_one S' d') sizeRS rfl rfl fun u4 B4 k4 => ?_
        refine takeP 13 (some 5) (.slice a2 m2 c2) rfl rfl (by kernel_rfl) (fun _ _ _ h => h) (by rfl) (fun w => by unfold execOp; go_simp) ?_
        simp only [Act.put, List.setIfInBounds_toArray, List.set_cons_zero, List.set_cons_succ]
        refine takeP 14 (some 6) (.bool true) rfl rfl (by kernel_rfl) (fun _ _ _ h => h) (by rfl) (fun w => by unfold execOp; go_simp) ?_
        simp only [Act.put, List.setIfInBounds_toArray, List.set_cons_zero, List.set_cons_succ]
        refine endE (by kernel_rfl) fun u5 hg5 => ?_
        have L5 : Hid (LoI w u5 U s x4 M S' d' a2 m2 c2 l2 (t + 1)) := L1.next hN hse hrs hba hm2 hk2 q3 B4 k4 hg5
        have P5 : Hid True := trivial
        have hbn : S'.book.length = d'.bn := Sl.len L5.out.rs.book
        have hbc := Sl.cap L5.out.rs.book
        clear HI BY BT HFX HRG KNR hg1 hs1 q1 L1 hN hse hrs hba hm2 hk2 hg3 hs3 q3 B2 B4 k4 hg5
        go_wp2_with fail
        have SE5 : ∀ u, Grows u5 u → Se U u s S' M := fun u hu => L5.out.se.grow hu
        have E1 : ∀ u, Grows u5 u → u.cell? ⟨x4, 1, none⟩ = some (.slice d'.ba d'.bn d'.bc) := fun u hu => (L5.out.blk.grows hu).cell 1
        have E4 : ∀ u, Grows u5 u → u.cell? ⟨x4, 4, none⟩ = some (.bool S'.reused) := fun u hu => (L5.out.blk.grows hu).cell 4
        have E5 : ∀ u, Grows u5 u → u.cell? ⟨x4, 5, none⟩ = some (.bool S'.forged) := fun u hu => (L5.out.blk.grows hu).cell 5
        have C4 : ∀ u, Grows u5 u → Calls Tryz.prog 9 #[.pointer (some ⟨s, 0, none⟩)] u fun e w' => e = .returned (.bool S'.reused) ∧ u = w' := fun u hu => oSReused u (SE5 u hu)
        have C5 : ∀ u, Grows u5 u → Calls Tryz.prog 10 #[.pointer (some ⟨s, 0, none⟩)] u fun e w' => e = .returned (.bool S'.forged) ∧ u = w' := fun u hu => oSForged u (SE5 u hu)
        have C1 : ∀ u, Grows u5 u → Calls Tryz.prog 11 #[.pointer (some ⟨s, 0, none⟩)] u fun e w' => e = .returned (.int .i64 (d'.bn : Int)) ∧ u = w' := fun u hu => by rw [← hbn]; exact oSSealed u (SE5 u hu)
        obtain ⟨RV, hRV⟩ : ∃ RV, RV = S'.reused := ⟨_, rfl⟩
        obtain ⟨FV, hFV⟩ : ∃ FV, FV = S'.forged := ⟨_, rfl⟩
        obtain ⟨bn, hbn2⟩ : ∃ bn, bn = d'.bn := ⟨_, rfl⟩
        rw [← hRV] at E4 C4
        rw [← hFV] at E5 C5
        rw [← hbn2] at E1 C1 hbc
        clear hRV hFV hbn hbn2 SE5
        refine regionG (S := Grows u5) (by kernel_rfl) (Below.refl _ u5).drew ?_
        refine takeG 0 (some 34) (.bool true) rfl rfl (by kernel_rfl) (by kernel_rfl) (by kernel_rfl) (fun _ _ _ h => h) (ans_plain (by rfl) (fun w _ => rfl)) ?_
        simp only [Act.put, List.setIfInBounds_toArray, List.set_cons_zero, List.set_cons_succ]
        refine takeG 1 (some 35) (.bool false) rfl rfl (by kernel_rfl) (by kernel_rfl) (by kernel_rfl) (fun _ _ _ h => h) (ans_plain (by rfl) (fun w _ => by unfold execOp; go_simp)) ?_
        simp only [Act.put, List.setIfInBounds_toArray, List.set_cons_zero, List.set_cons_succ]
        refine takeG 2 (some 36) (.bool false) rfl rfl (by kernel_rfl) (by kernel_rfl) (by kernel_rfl) (fun _ _ _ h => h) (ans_plain (by rfl) (fun w _ => rfl)) ?_
        simp only [Act.put, List.setIfInBounds_toArray, List.set_cons_zero, List.set_cons_succ]
        refine takeG 3 (some 37) (.pointer (some ⟨s, 0, none⟩)) rfl rfl (by kernel_rfl) (by kernel_rfl) (by kernel_rfl) (fun _ _ _ h => h) (ans_plain (by rfl) (fun w _ => rfl)) ?_
        simp only [Act.put, List.setIfInBounds_toArray, List.set_cons_zero, List.set_cons_succ]
        refine takeG 5 (some 39) (.pointer (some ⟨x4, 4, none⟩)) rfl rfl (by kernel_rfl) (by kernel_rfl) (by kernel_rfl) (fun _ _ _ h => h) (ans_plain (by rfl) (fun w _ => by unfold execOp; go_simp)) ?_
        simp only [Act.put, List.setIfInBounds_toArray, List.set_cons_zero, List.set_cons_succ]
        refine takeG 6 (some 40) (.bool RV) rfl rfl (by kernel_rfl) (by kernel_rfl) (by kernel_rfl) (fun _ _ _ h => h) (ans_plain (by rfl) (fun w h => by have hc := E4 w h; unfold execOp; go_simp)) ?_
        simp only [Act.put, List.setIfInBounds_toArray, List.set_cons_zero, List.set_cons_succ]
        refine callG 4 (some 38) 9 #[.tmp 37] #[25] #[.pointer (some ⟨s, 0, none⟩)] rfl rfl rfl (by rfl) (by rfl) (by kernel_rfl) Tryz.call9 fun z1 hz1 hs1 => ?_
        refine (C4 z1 hs1).mono ?_
        rintro _ _ ⟨rfl, rfl⟩
        refine ⟨_, rfl, hs1, ?_⟩
        simp only [Act.put, List.setIfInBounds_toArray, List.set_cons_zero, List.set_cons_succ]
        refine takeG 7 (some 41) (.bool false) rfl rfl (by kernel_rfl) (by kernel_rfl) (by kernel_rfl) (fun _ _ _ h => h) (ans_plain (by rfl) (fun w _ => by unfold execOp; cases RV <;> go_simp)) ?_
        simp only [Act.put, List.setIfInBounds_toArray, List.set_cons_zero, List.set_cons_succ]
        refine takeG 8 (some 42) (.bool false) rfl rfl (by kernel_rfl) (by kernel_rfl) (by kernel_rfl) (fun _ _ _ h => h) (ans_plain (by rfl) (fun w _ => by unfold execOp; go_simp)) ?_
        simp only [Act.put, List.setIfInBounds_toArray, List.set_cons_zero, List.set_cons_succ]
        refine takeG 9 (some 43) (.bool false) rfl rfl (by kernel_rfl) (by kernel_rfl) (by kernel_rfl) (fun _ _ _ h => h) (ans_plain (by rfl) (fun w _ => rfl)) ?_
        simp only [Act.put, List.setIfInBounds_toArray, List.set_cons_zero, List.set_cons_succ]
        refine takeG 10 (some 44) (.pointer (some ⟨s, 0, none⟩)) rfl rfl (by kernel_rfl) (by kernel_rfl) (by kernel_rfl) (fun _ _ _ h => h) (ans_plain (by rfl) (fun w _ => rfl)) ?_
        simp only [Act.put, List.setIfInBounds_toArray, List.set_cons_zero, List.set_cons_succ]
        refine takeG 12 (some 46) (.pointer (some ⟨x4, 5, none⟩)) rfl rfl (by kernel_rfl) (by kernel_rfl) (by kernel_rfl) (fun _ _ _ h => h) (ans_plain (by rfl) (fun w _ => by unfold execOp; go_simp)) ?_
        simp only [Act.put, List.setIfInBounds_toArray, List.set_cons_zero, List.set_cons_succ]
        refine takeG 13 (some 47) (.bool FV) rfl rfl (by kernel_rfl) (by kernel_rfl) (by kernel_rfl) (fun _ _ _ h => h) (ans_plain (by rfl) (fun w h => by have hc := E5 w h; unfold execOp; go_simp)) ?_
        simp only [Act.put, List.setIfInBounds_toArray, List.set_cons_zero, List.set_cons_succ]
        refine callG 11 (some 45) 10 #[.tmp 44] #[25] #[.pointer (some ⟨s, 0, none⟩)] rfl rfl rfl (by rfl) (by rfl) (by kernel_rfl) Tryz.call10 fun z2 hz2 hs2 => ?_
        refine (C5 z2 hs2).mono ?_
        rintro _ _ ⟨rfl, rfl⟩
        refine ⟨_, rfl, hs2, ?_⟩
        simp only [Act.put, List.setIfInBounds_toArray, List.set_cons_zero, List.set_cons_succ]
        refine takeG 14 (some 48) (.bool false) rfl rfl (by kernel_rfl) (by kernel_rfl) (by kernel_rfl) (fun _ _ _ h => h) (ans_plain (by rfl) (fun w _ => by unfold execOp; cases FV <;> go_simp)) ?_
        simp only [Act.put, List.setIfInBounds_toArray, List.set_cons_zero, List.set_cons_succ]
        refine takeG 15 (some 49) (.bool false) rfl rfl (by kernel_rfl) (by kernel_rfl) (by kernel_rfl) (fun _ _ _ h => h) (ans_plain (by rfl) (fun w _ => by unfold execOp; go_simp)) ?_
        simp only [Act.put, List.setIfInBounds_toArray, List.set_cons_zero, List.set_cons_succ]
        refine takeG 16 (some 50) (.bool false) rfl rfl (by kernel_rfl) (by kernel_rfl) (by kernel_rfl) (fun _ _ _ h => h) (ans_plain (by rfl) (fun w _ => rfl)) ?_
        simp only [Act.put, List.setIfInBounds_toArray, List.set_cons_zero, List.set_cons_succ]
        refine takeG 17 (some 51) (.pointer (some ⟨s, 0, none⟩)) rfl rfl (by kernel_rfl) (by kernel_rfl) (by kernel_rfl) (fun _ _ _ h => h) (ans_plain (by rfl) (fun w _ => rfl)) ?_
        simp only [Act.put, List.setIfInBounds_toArray, List.set_cons_zero, List.set_cons_succ]
        refine takeG 19 (some 53) (.pointer (some ⟨x4, 1, none⟩)) rfl rfl (by kernel_rfl) (by kernel_rfl) (by kernel_rfl) (fun _ _ _ h => h) (ans_plain (by rfl) (fun w _ => by unfold execOp; go_simp)) ?_
        simp only [Act.put, List.setIfInBounds_toArray, List.set_cons_zero, List.set_cons_succ]
        refine takeG 20 (some 54) (.slice d'.ba bn d'.bc) rfl rfl (by kernel_rfl) (by kernel_rfl) (by kernel_rfl) (fun _ _ _ h => h) (ans_plain (by rfl) (fun w h => by have hc := E1 w h; unfold execOp; go_simp)) ?_
        simp only [Act.put, List.setIfInBounds_toArray, List.set_cons_zero, List.set_cons_succ]
        refine takeG 21 (some 55) (.int .i64 (bn : Int)) rfl rfl (by kernel_rfl) (by kernel_rfl) (by kernel_rfl) (fun _ _ _ h => h) (ans_plain (by rfl) (fun w _ => by unfold execOp; go_simp)) ?_
        simp only [Act.put, List.setIfInBounds_toArray, List.set_cons_zero, List.set_cons_succ]
        refine callG 18 (some 52) 11 #[.tmp 51] #[25] #[.pointer (some ⟨s, 0, none⟩)] rfl rfl rfl (by rfl) (by rfl) (by kernel_rfl) Tryz.call11 fun z3 hz3 hs3 => ?_
        refine (C1 z3 hs3).mono ?_
        rintro _ _ ⟨rfl, rfl⟩
        refine ⟨_, rfl, hs3, ?_⟩
        simp only [Act.put, List.setIfInBounds_toArray, List.set_cons_zero, List.set_cons_succ]
        refine takeG 22 (some 56) (.bool false) rfl rfl (by kernel_rfl) (by kernel_rfl) (by kernel_rfl) (fun _ _ _ h => h) (ans_plain (by rfl) (fun w _ => by unfold execOp; go_simp)) ?_
        simp only [Act.put, List.setIfInBounds_toArray, List.set_cons_zero, List.set_cons_succ]
        refine takeG 23 (some 57) (.bool false) rfl rfl (by kernel_rfl) (by kernel_rfl) (by kernel_rfl) (fun _ _ _ h => h) (ans_plain (by rfl) (fun w _ => by unfold execOp; go_simp)) ?_
        simp only [Act.put, List.setIfInBounds_toArray, List.set_cons_zero, List.set_cons_succ]
        refine doneG (by kernel_rfl) fun w9 hg9 hs9 => ?_
        have L9 : Hid (LoI w w9 U s x4 M S' d' a2 m2 c2 l2 (t + 1)) := L5.out.grow hs9
        clear hz1 hs1 hz2 hs2 hz3 hs3 hg9 hs9 L5 E1 E4 E5 C1 C4 C5
        go_wp2_with fail
        go_roundw
        case rel => exact ⟨t + 1, S', d', a2, m2, c2, l2, by omega, rfl, rfl, by go_num, L9.out, P5.out⟩
        case measure => simp [intOf]; omega
      · have i0 : ¬ (t : Int) < (len0 : Int) := by omega
        have QR : Hid (Below w.heap.size w wr) := HI.out.1.bel
        clear HI
        go_wp2_with fail
        refine (lWorks12 wr).mono ?_
        rintro e wz ⟨rfl, hbz⟩
        go_wp2_with fail
        go_ret
        exact ⟨rfl, QR.out.trans (hbz.mono QR.out.size)⟩

set_option maxRecDepth 100000 in
theorem contract (H : Type) (enc : TypeId × Value → H) (W : World) (base : Nat) (args : Array Value) (ds gs : List (DataW H)) (before : List MemPlace)
    (hval0 : ∀ (j : Nat) t v, Tryz.f4.params[j]? = some t → args[j]? = some v → Value.okWide Tryz.prog W .any base t v)
    (hW : DataW.Whole enc Tryz.prog Tryz.f4.params.toList Rows.sealRealSpec.vars false W args.toList ds gs before) (hL : laidMetH Tryz.prog Rows.sealRealRow.laid W) :
    Calls Tryz.prog 4 args W fun e W' => ∃ v, e = .returned v ∧ Rows.sealRealSpec.post enc Tryz.prog Tryz.f4 false true false false W args v W' := by
  have hval : ∀ (j : Nat) t v, Tryz.f4.params[j]? = some t → args[j]? = some v → Value.okWide Tryz.prog W .any base t v := hval0
  have hW' := hW
  obtain ⟨p, q, hA0, hV, rfl, hfz, hnd⟩ := hW
  have hA : DataW.TrodAll enc Tryz.prog W 0 (fun _ => true) true Tryz.f4.params.toList args.toList ds p := hA0
  rw [Tryz.params4] at hA hval
  obtain ⟨v0, vs0, d0, ds0, p0, q0, hargs, rfl, rfl, h0, r0⟩ := trodAll_cons hA
  obtain ⟨rfl, rfl, rfl⟩ := trodAll_nil r0
  obtain rfl : args = #[v0] := by cases args; simp_all
  obtain ⟨rfl, rfl⟩ := trodVars_none hV
  obtain ⟨a0, len0, cap0, rfl⟩ := okWide_slice Tryz.underlying22 (hval 0 22 v0 rfl rfl)
  have k0 := h0
  have lt0 : ∀ x ∈ p0, x.block < W.heap.size := by obtain ⟨m, hm⟩ := k0; exact DataW.trod_lt m _ _ _ hm
  obtain ⟨l0, w0⟩ : ∃ l, Acts12 W a0 len0 cap0 l := by
    obtain ⟨fuel, hf⟩ := h0
    exact acts12_of_trod hf
  clear hA0 hval0
  refine (walk a0 len0 cap0 l0 W (kon hL) w0).mono fun e W' ⟨he, bel⟩ => ?_
  subst he
  exact ⟨_, rfl, _, _, _, [], _, [], hW', trodAll_mk1 (shut_bool Tryz.underlying4 _), (trodAll_cons_mk (Below.trod laidOut (by kernel_rfl) (of_decide_eq_true (by kernel_rfl)) k0 bel lt0) trodAll_mk0), rfl, bel.frame _, fun h => by cases h⟩

/-- A world for the witness: the settled one, the constants as their initialiser lays them. -/
noncomputable def laidWorld (os : Os) : World :=
  { World.holding Tryz.prog os ⟨#[], #[], []⟩ with heap := (World.holding Tryz.prog os ⟨#[], #[], []⟩).heap.modify 0 fun
      | .cells _ t frozen => .cells (ws sKs).toArray t frozen
      | o => o }
set_option maxRecDepth 100000 in
theorem laid_met (os : Os) : laidMet Tryz.prog Rows.sealRealRow.laid ((laidWorld os).forCall (fun _ _ => 0) ⟨#[], #[.slice none 0 0], []⟩).memory :=
  laidMet_of_run' 8 (by kernel_rfl) (by kernel_rfl)
set_option maxRecDepth 100000 in
theorem reads (os : Os) {H : Type} (enc : TypeId × Value → H) : ∃ places, DataW.whole enc Tryz.prog ((laidWorld os).forCall (fun _ _ => 0) ⟨#[], #[.slice none 0 0], []⟩).memory Tryz.f4.params.toList Rows.sealRealSpec.vars false (#[.slice none 0 0] : Array Value).toList 8 = some ([.nil], [], places) :=
  ⟨[], by kernel_rfl⟩

set_option maxRecDepth 100000 in
theorem lifted (os : Os) (started : os.Started) (H : Type) (enc : TypeId × Value → H) (F : Stop.Interp) :
    ReturnsInHanded {} Tryz.checked os 4 .any ((OpenSpec.ofChange Rows.sealRealSpec).preRow enc Tryz.prog Tryz.f4 Rows.sealRealRow.domain false Rows.sealRealRow.laid) (((OpenSpec.ofChange Rows.sealRealSpec).at F).post enc Tryz.prog Tryz.f4 false true false false) := by
  obtain ⟨places, hx⟩ := reads os enc
  refine returnsInHanded_of_row (C := Tryz.checked) (s := OpenSpec.ofChange Rows.sealRealSpec) own started (by kernel_rfl) Tryz.func4
    (witness_row_at (enc := enc) (C := Tryz.checked) false (laidWorld os) #[.slice none 0 0] rfl (by kernel_rfl) (by kernel_rfl) (by kernel_rfl)
      (OpenSpec.preRow_of_cond 8 hx (by kernel_rfl) (fun k hk => by cases hk) (by kernel_rfl) (laid_met os))) ?_
  intro W base args ds gs before hval hW _ _ _ hL _ _
  exact contract H enc W base args ds gs before hval hW hL

theorem over : Rows.sealRealRow.holds Tryz.pinned (OpenSpec.ofChange Rows.sealRealSpec) :=
  OpenClaim.holds_of_cond 4 Tryz.f4 rfl rfl rfl rfl rfl rfl rfl ⟨rfl, rfl, rfl, rfl, rfl⟩ rfl rfl rfl rfl rfl (by kernel_rfl) Tryz.func4 (by kernel_rfl)
    (of_decide_eq_true (by kernel_rfl)) (by unfold Func.isWrapper; first | (rw [if_pos (by decide +kernel)]; kernel_rfl) | (rw [if_neg (by decide +kernel)]; exact ⟨rfl, rfl⟩))
    (fun os started H enc _ F => by rw [OpenClaim.pre_eq_preRow]; exact lifted os started H enc F)

/-- No parameter wants a stand-in. -/
theorem plain (f : FuncId) (fn : Func) (hf : Tryz.pinned.checked.prog.funcNamed "deedbox/deedboxlaw12.SealReal" = some f) (hfn : Tryz.pinned.checked.prog.funcs[f]? = some fn) :
    false = Tryz.pinned.checked.prog.looks [] ∧ ∀ (j : Nat) t, fn.params[j]? = some t → Tryz.pinned.checked.prog.wantsStandIn t = false := by
  obtain rfl : f = 4 := Option.some.inj ((show Tryz.prog.funcNamed "deedbox/deedboxlaw12.SealReal" = some 4 by kernel_rfl).symm.trans hf) |>.symm
  obtain rfl : fn = Tryz.f4 := (Option.some.inj (Tryz.func4.symm.trans hfn)).symm
  refine ⟨by kernel_rfl, fun j t ht => ?_⟩
  rw [Tryz.params4] at ht
  obtain rfl : t = 22 := by simpa using Array.mem_of_getElem? ht
  exact (show Tryz.prog.wantsStandIn 22 = false by kernel_rfl)
end SealRealLaw

/-- The statement: the card. -/
theorem sealReal_holds : Rows.SealRealCardSaid :=
  Claim7.holds_tied_plain_at .later [] _ _ _ _ SealRealLaw.over (fun _ h => by cases h) (by kernel_rfl) (fun _ h => by cases h) sealReal_row_tie rfl ⟨rfl, rfl⟩ (by kernel_rfl) rfl SealRealLaw.plain (by kernel_rfl)
#print axioms sealReal_holds
end Go.Proofs.YtjpejheipkfanaaGreatDoor
