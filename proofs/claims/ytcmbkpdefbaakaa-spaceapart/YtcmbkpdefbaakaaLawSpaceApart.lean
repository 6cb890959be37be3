/-
  Proved: for any small number and any two rows of bytes the statement SpaceApart of layer 15 answers true and leaves its arguments as they were. Conditions beside the statement's own: none.
-/
import Derived.Test.YtcmbkpdefbaakaaRows
import Derived.Test.YtcmbkpdefbaakaaSpaW
import Derived.Test.YtcmbkpdefbaakaaSpaX
import Derived.Test.YtcmbkpdefbaakaaOpenB
import Derived.Test.YtcmbkpdefbaakaaSpaN
import Derived.Below
import Derived.Deep.DeepCutAuto
import Derived.Deep.CutBlock
import Derived.ChangeOld
namespace Go.Proofs.Ytcmbkpdefbaakaa
namespace SpaceApartLaw
open Go.ChangeShapes Go.WideShapes Go.ChangeAt Go.RowKit
open Go.ChangeMaps (open_string shut_string)
set_option linter.unusedVariables false

theorem own : ownKnob Try.prog.godebug = none := by kernel_rfl
theorem laidOut : laidOutB Try.prog = true := by kernel_rfl

set_option maxRecDepth 100000 in
set_option maxHeartbeats 4000000 in
theorem walk (a0 : Int) (a1 : Option Addr) (len1 cap1 : Nat) (l1 : List UInt8) (a2 : Option Addr) (len2 cap2 : Nat) (l2 : List UInt8) (w : World) (w0 : (Lit.int .u8 a0).wf = true) (w1 : Bs w a1 len1 cap1 l1) (w2 : Bs w a2 len2 cap2 l2) :
    Calls Try.prog 4 #[.int .u8 a0, .slice a1 len1 cap1, .slice a2 len2 cap2] w fun e w' => e = .returned (.bool true) ∧ Below w.heap.size w w' := by
  obtain ⟨n0, rfl⟩ : ∃ n : Nat, a0 = (n : Int) := ⟨a0.toNat, by have := (bounds_u8 w0).1; omega⟩
  have hn255 : n0 ≤ 255 := by have := (bounds_u8 w0).2; omega
  clear w0
  have W1 : Hid (Bs w a1 len1 cap1 l1) := w1
  have W2 : Hid (Bs w a2 len2 cap2 l2) := w2
  have hc1 := w1.cap
  have hc2 := w2.cap
  clear w1 w2
  by_cases h1 : (40 : Int) < len1
  · go_enter Try.func4, Try.ntmps4
    go_wp2_with (go_at_call 6; refine (lWorks15 _).mono ?_; rintro e w2 ⟨rfl, hb1⟩)
    go_ret
    exact ⟨rfl, hb1⟩
  · have hw64 := wrapN hn255
    obtain ⟨K, hK⟩ : ∃ K, K = n0 % 20 := ⟨_, rfl⟩
    have hT : (n0 : Int).tmod 20 = (K : Int) := by rw [hK]; exact tmodN n0 20
    have hK2 : K ≤ 19 := by omega
    have hl40 : len1 ≤ 40 := by omega
    clear hK
    go_enter Try.func4, Try.ntmps4
    go_wp2_with fail
    refine (oZNew w 60 K (by omega) (by omega) (by omega)).mono ?_
    rintro e w1 ⟨s, t, rfl, hS, hs, ht, hb⟩
    have Ht : Hid (w.heap.size ≤ t) := ht
    have HS : Hid (Sp w1 s t (SpS.new 60 K)) := hS
    have HB : Hid (Below w.heap.size w w1) := hb
    clear hS hs ht hb
    go_wp2_with (at_make; refine wpList_mkB w1 47 3 (.int .i64 0) (.int .i64 0) 1 8 Try.underlying47 infoI rfl (by decide) (by decide) rfl _ _ rfl 60 rfl rfl (by decide) ?_; intro w2 hO2 hb2)
    rw [iz_zero] at hO2
    have Hgt : Hid (w1.heap.size ≠ t) := by show _ ≠ _; have := HS.out.lt2; omega
    have Hgs : Hid (w1.heap.size ≠ s) := by show _ ≠ _; have := HS.out.lt; omega
    have Hg : Hid (w.heap.size ≤ w1.heap.size) := HB.out.size
    have HS2 : Hid (Sp w2 s t (SpS.new 60 K)) := HS.out.grow hb2
    have HB2 : Hid (Below w.heap.size w w2) := HB.out.trans (hb2.mono HB.out.size)
    have HO2 : Hid (Blk w2 w1.heap.size (iz (List.replicate 60 0)) 3) := hO2
    clear HS HB hb2 hO2
    generalize w1.heap.size = g at *
    have HI : Hid (Has15 K (SpS.new 60 K) (List.replicate 60 0)) := Has15.new (by omega)
    go_loopw [12] (fun x wr => ∃ (i : Nat) (S : SpS) (O : List Int), i ≤ len1 ∧ x = .int .i64 (i : Int) ∧ Hid (Sp wr s t S) ∧ Hid (Blk wr g (iz O) 3) ∧ Hid (Has15 K S O) ∧ Hid (Below w.heap.size w wr)) (fun x _ => len1 - (intOf x).toNat)
    case atStart => exact ⟨0, _, _, Nat.zero_le _, rfl, HS2, HO2, HI, HB2⟩
    case round =>
      clear HS2 HO2 HI HB2 hw64 hT hn255
      obtain ⟨i, S, O, hi, rfl, HS, HO, HI, HB⟩ := hrel
      by_cases hlt : i < len1
      · have hpos : 0 < len1 := Nat.lt_of_le_of_lt (Nat.zero_le _) hlt
        obtain ⟨b1, o1, rfl, hb1, hx1⟩ := W1.out.at hpos
        have hb1R : b1 < wr.heap.size := Nat.lt_of_lt_of_le hb1 HB.out.size
        obtain ⟨y, hy255, hy⟩ := bt_nat l1 i
        have d1 : wr.cell? ⟨b1, o1 + i, none⟩ = some (.int .u8 (y : Int)) := by rw [HB.out.cell (p := ⟨b1, o1 + i, none⟩) hb1, hx1 i hlt, hy]
        obtain ⟨J, m, hT9, hJm, m1, m2, J9⟩ := mod9 y
        have i0 : (i : Int) < (len1 : Int) := by omega
        clear hy hx1
        cases hf : findL S.l m with
        | none =>
          have HT := oZTakeE wr HS.out (m : Int) (SpS.take_none m1 hf)
          clear hf
          go_wp2_with fail
          refine HT.mono ?_
          rintro e w2 ⟨rfl, h2, k2⟩
          have HS2 : Hid (Sp w2 s t S) := h2
          have HO2 : Hid (Blk w2 g (iz O) 3) := k2.blk HO.out Hgt.out
          have HB2 : Hid (Below w.heap.size w w2) := below_kp HB.out k2 HB.out.size (fun j hj e => by have := Ht.out; omega)
          clear HT h2 k2
          go_wp2_with fail
          go_roundw
          case rel => exact ⟨i + 1, S, O, by omega, by go_num, HS2, HO2, HI, HB2⟩
          case measure => simp [intOf]; omega
        | some a =>
          have HT := oZTakeE wr HS.out (m : Int) (SpS.take_some m1 hf)
          have HF : Hid (findL S.l m = some a) := hf
          have hls := HI.out.ls
          have hfs := HI.out.fst
          have hal := (findL_spec hf).1
          have hka : K ≤ a := by rw [← hfs]; exact SpS.good_find HI.out.good m1 (findL_spec hf).2.1
          have ham : a + m ≤ 60 := by omega
          have j1 : ¬ (a : Int) < (K : Int) := by omega
          have j2 : ¬ (60 : Int) - (m : Int) < (a : Int) := by omega
          have HZ : Hid (∀ j, a ≤ j → j < a + m → O.getD j 0 = 0) := fun j h1 h2 => HI.out.free hf h1 h2
          have HTook : Hid (∀ O', PutI O a (a + m) ((i : Int) + 1) O' → Has15 K ⟨S.first, putB S.l a m true⟩ O') := fun O' hp => HI.out.took m1 hf (by omega) hp
          have HGv : Hid ((SpS.mk S.first (putB S.l a m true)).give a m = (⟨S.first, putB (putB S.l a m true) a m false⟩, 0)) := SpS.give_took m1 (by omega) hal
          have HFa : Hid (S.first ≤ a) := by show _ ≤ _; omega
          have HOl : Hid (O.length = 60) := HI.out.lo
          clear hf hls hfs hal
          go_wp2_with fail
          refine HT.mono ?_
          rintro e w2 ⟨rfl, h2, k2⟩
          have HS2 : Hid (Sp w2 s t ⟨S.first, putB S.l a m true⟩) := h2
          have HO2 : Hid (Blk w2 g (iz O) 3) := k2.blk HO.out Hgt.out
          have HB2 : Hid (Below w.heap.size w w2) := below_kp HB.out k2 HB.out.size (fun j hj e => by have := Ht.out; omega)
          clear HT h2 k2
          go_wp2_with fail
          go_loopw [16] (fun x w3 => ∃ (q : Nat) (O' : List Int), a ≤ q ∧ q ≤ a + m ∧ x = .int .i64 (q : Int) ∧ Hid (PutI O a q ((i : Int) + 1) O') ∧ Hid (Sp w3 s t ⟨S.first, putB S.l a m true⟩) ∧ Hid (Blk w3 g (iz O') 3) ∧ Hid (Below w.heap.size w w3)) (fun x _ => a + m - (intOf x).toNat)
          case atStart => exact ⟨a, O, by omega, by omega, rfl, PutI.zero O a _, HS2, HO2, HB2⟩
          case round =>
            clear HS2 HO2 HB2
            rename World => w3
            obtain ⟨q, O', q1, q2, rfl, HP, HS3, HO3, HB3⟩ := hrel
            by_cases hq : q < a + m
            · have j3 : (q : Int) < (a : Int) + (m : Int) := by omega
              have j4 : (q : Int) < 60 := by omega
              have e0 : O'.getD q 0 = 0 := by rw [HP.out.at_ q (by rw [HOl.out]; omega), if_neg (by omega)]; exact HZ.out q q1 hq
              have c0 := HO3.out.atI (k := q) (by rw [HP.out.len, HOl.out]; omega)
              rw [e0] at c0
              have f0 := HO3.out.free q
              have lg := HO3.out.lt
              have HP4 : Hid (PutI O a (q + 1) ((i : Int) + 1) (O'.set q ((i : Int) + 1))) := HP.out.step q1
              have HO4 : Hid (Blk (w3.setCell ⟨g, q, none⟩ (.int .i64 ((i : Int) + 1))) g (iz (O'.set q ((i : Int) + 1))) 3) := HO3.out.setI q _
              have HS4 : Hid (Sp (w3.setCell ⟨g, q, none⟩ (.int .i64 ((i : Int) + 1))) s t ⟨S.first, putB S.l a m true⟩) := HS3.out.keep (Kp.setC (F := fun j => j = g) rfl q _) (fun e => Hgs.out e.symm) (fun e => Hgt.out e.symm)
              have HB4 : Hid (Below w.heap.size w (w3.setCell ⟨g, q, none⟩ (.int .i64 ((i : Int) + 1)))) := HB3.out.setCell (p := ⟨g, q, none⟩) Hg.out _
              clear e0
              go_wp2_with fail
              go_roundw
              case rel => exact ⟨q + 1, _, by omega, by omega, by go_num, HP4, HS4, HO4, HB4⟩
              case measure => simp [intOf]; omega
            · obtain rfl : q = a + m := by omega
              have j3 : ¬ ((a + m : Nat) : Int) < (a : Int) + (m : Int) := by omega
              have HI3 : Hid (Has15 K ⟨S.first, putB S.l a m true⟩ O') := HTook.out O' HP.out
              clear HP HTook HZ HF HI HO HS HB
              by_cases hg2 : i < len2
              · have hpos2 : 0 < len2 := Nat.lt_of_le_of_lt (Nat.zero_le _) hg2
                obtain ⟨b2, o2, rfl, hb2, hx2⟩ := W2.out.at hpos2
                have hb2R : b2 < w3.heap.size := Nat.lt_of_lt_of_le hb2 HB3.out.size
                obtain ⟨z, hz255, hz⟩ := bt_nat l2 i
                have d2 : w3.cell? ⟨b2, o2 + i, none⟩ = some (.int .u8 (z : Int)) := by rw [HB3.out.cell (p := ⟨b2, o2 + i, none⟩) hb2, hx2 i hg2, hz]
                obtain ⟨Z, hT3, Z2⟩ := mod3 z
                have i5 : (i : Int) < (len2 : Int) := by omega
                clear hx2 hz
                by_cases hZ0 : Z = 0
                · subst hZ0
                  have HGc := oZGiveE w3 HS3.out (a : Int) (m : Int) (by omega) HGv.out
                  go_wp2_with fail
                  refine HGc.mono ?_
                  rintro e w4 ⟨rfl, h4, k4⟩
                  have HS4 : Hid (Sp w4 s t ⟨S.first, putB (putB S.l a m true) a m false⟩) := h4
                  have HO4 : Hid (Blk w4 g (iz O') 3) := k4.blk HO3.out Hgt.out
                  have HB4 : Hid (Below w.heap.size w w4) := below_kp HB3.out k4 HB3.out.size (fun j hj e => by have := Ht.out; omega)
                  have HOl4 : Hid (O'.length = 60) := HI3.out.lo
                  have HGave : Hid (∀ O'', PutI O' a (a + m) 0 O'' → Has15 K ⟨S.first, putB (putB S.l a m true) a m false⟩ O'') := fun O'' hp => HI3.out.gave HFa.out hp
                  clear HGc h4 k4 HS3 HO3 HB3 d2 hb2R
                  go_wp2_with fail
                  go_loopw [17] (fun x w5 => ∃ (q : Nat) (O'' : List Int), a ≤ q ∧ q ≤ a + m ∧ x = .int .i64 (q : Int) ∧ Hid (PutI O' a q 0 O'') ∧ Hid (Sp w5 s t ⟨S.first, putB (putB S.l a m true) a m false⟩) ∧ Hid (Blk w5 g (iz O'') 3) ∧ Hid (Below w.heap.size w w5)) (fun x _ => a + m - (intOf x).toNat)
                  case atStart => exact ⟨a, O', by omega, by omega, rfl, PutI.zero O' a _, HS4, HO4, HB4⟩
                  case round =>
                    clear HS4 HO4 HB4
                    rename World => w5
                    obtain ⟨q, O'', q1, q2, rfl, HP, HS5, HO5, HB5⟩ := hrel
                    by_cases hq : q < a + m
                    · have j3 : (q : Int) < (a : Int) + (m : Int) := by omega
                      have j4 : (q : Int) < 60 := by omega
                      have c0 := HO5.out.atI (k := q) (by rw [HP.out.len, HOl4.out]; omega)
                      have f0 := HO5.out.free q
                      have lg := HO5.out.lt
                      have HP6 : Hid (PutI O' a (q + 1) 0 (O''.set q 0)) := HP.out.step q1
                      have HO6 : Hid (Blk (w5.setCell ⟨g, q, none⟩ (.int .i64 0)) g (iz (O''.set q 0)) 3) := HO5.out.setI q _
                      have HS6 : Hid (Sp (w5.setCell ⟨g, q, none⟩ (.int .i64 0)) s t ⟨S.first, putB (putB S.l a m true) a m false⟩) := HS5.out.keep (Kp.setC (F := fun j => j = g) rfl q _) (fun e => Hgs.out e.symm) (fun e => Hgt.out e.symm)
                      have HB6 : Hid (Below w.heap.size w (w5.setCell ⟨g, q, none⟩ (.int .i64 0))) := HB5.out.setCell (p := ⟨g, q, none⟩) Hg.out _
                      generalize O''.getD q 0 = ov at *
                      go_wp2_with fail
                      go_roundw
                      case rel => exact ⟨q + 1, _, by omega, by omega, by go_num, HP6, HS6, HO6, HB6⟩
                      case measure => simp [intOf]; omega
                    · obtain rfl : q = a + m := by omega
                      have j3 : ¬ ((a + m : Nat) : Int) < (a : Int) + (m : Int) := by omega
                      have HI5 : Hid (Has15 K ⟨S.first, putB (putB S.l a m true) a m false⟩ O'') := HGave.out O'' HP.out
                      go_wp2_with fail
                      go_roundw
                      case rel => exact ⟨i + 1, _, O'', by omega, by go_num, HS5, HO5, HI5, HB5⟩
                      case measure => simp [intOf]; omega
                · have hZ1 : ((Z : Int) == 0) = false := by rw [beq_eq_false_iff_ne]; omega
                  clear hZ0
                  go_wp2_with fail
                  go_roundw
                  case rel => exact ⟨i + 1, _, O', by omega, by go_num, HS3, HO3, HI3, HB3⟩
                  case measure => simp [intOf]; omega
              · have i5 : ¬ (i : Int) < (len2 : Int) := by omega
                go_wp2_with fail
                go_roundw
                case rel => exact ⟨i + 1, _, O', by omega, by go_num, HS3, HO3, HI3, HB3⟩
                case measure => simp [intOf]; omega
      · have i0 : ¬ (i : Int) < (len1 : Int) := by omega
        obtain ⟨f3, l⟩ := S
        have hL : l.length = 60 := HI.out.ls
        have HLL : Hid (l.length = 60) := hL
        have hok := HS.out.ok
        have HF0 : Hid (freeN l K = 0) := freeN_good fun j hj => HI.out.good j (by rw [HI.out.fst]; exact hj)
        clear hL hok
        go_wp2_with fail
        go_loopw [18, 19] (fun v x w3 => ∃ j : Nat, K ≤ j ∧ j ≤ 60 ∧ x = .int .i64 (j : Int) ∧ v = .int .i64 (freeN l j : Int) ∧ Hid (Sp w3 s t ⟨f3, l⟩) ∧ Hid (Blk w3 g (iz O) 3) ∧ Hid (Below w.heap.size w w3)) (fun _ x _ => 60 - (intOf x).toNat)
        case atStart => exact ⟨K, by omega, by omega, rfl, by rw [HF0.out]; rfl, HS, HO, HB⟩
        case round =>
          clear HS HO HB
          rename World => w3
          obtain ⟨j, j1, j2, rfl, rfl, HS, HO, HB⟩ := hrel
          by_cases hj : j < 60
          · have i1 : (j : Int) < 60 := by omega
            have c0 := HO.out.atI (k := j) (by rw [HI.out.lo]; omega)
            have lg := HO.out.lt
            have ht := HI.out.taken j1 hj
            have HTk : Hid (∀ nq, Calls Try.prog 19 #[.pointer (some ⟨s, 0, none⟩), .int .i64 (j : Int)] (w3.drewN nq) fun e w' => e = .returned (.bool (O.getD j 0 != 0)) ∧ w' = w3.drewN nq) := fun nq => by
              have := oZTaken (w3.drewN nq) (HS.out.grow (below_drewN' w3 nq)) (j : Int)
              rw [SpS.taken_in ⟨f3, l⟩ (by show j < l.length; rw [HLL.out]; omega), ht] at this
              exact this.mono fun e w' h => ⟨h.1, h.2.symm⟩
            have HN : Hid (freeN l (j + 1) = freeN l j + (if l.getD j false then 0 else 1)) := rfl
            dsimp only at ht
            rw [ht] at HN
            have hv := freeN_le l j
            have Hn : Hid (∀ nq, Hid (Sp (w3.drewN nq) s t ⟨f3, l⟩) ∧ Hid (Blk (w3.drewN nq) g (iz O) 3) ∧ Hid (Below w.heap.size w (w3.drewN nq))) := fun nq => ⟨HS.out.grow (below_drewN' w3 nq), HO.out, below_drN HB.out nq⟩
            generalize freeN l j = V at *
            have hV : V ≤ 60 := by omega
            clear ht hv
            generalize O.getD j 0 = ov at *
            by_cases h0 : ov = 0
            · subst h0
              have HN' : Hid (freeN l (j + 1) = V + 1) := HN.out
              rw [show ((0 : Int) != 0) = false from rfl] at HTk
              clear HN
              go_wp2_with fail
              go_quiet ((go_at_call 19; exact Calls.quiet_of_same (HTk.out _)))
              obtain ⟨r1, r2, r3⟩ := Hn.out nq
              go_wp2_with fail
              go_roundw
              case rel => exact ⟨j + 1, by omega, by omega, by go_num, by rw [HN'.out]; go_num, r1, r2, r3⟩
              case measure => simp [intOf]; omega
            · have hb : (ov == 0) = false := by rw [beq_eq_false_iff_ne]; exact h0
              have hb2 : (ov != 0) = true := by rw [bne, hb]; rfl
              rw [hb2] at HTk HN
              have HN' : Hid (freeN l (j + 1) = V) := HN.out
              clear HN h0
              go_wp2_with fail
              go_quiet ((go_at_call 19; exact Calls.quiet_of_same (HTk.out _)))
              obtain ⟨r1, r2, r3⟩ := Hn.out nq
              go_wp2_with fail
              go_roundw
              case rel => exact ⟨j + 1, by omega, by omega, by go_num, by rw [HN'.out], r1, r2, r3⟩
              case measure => simp [intOf]; omega
          · obtain rfl : j = 60 := by omega
            have HFr := oZFree w3 HS.out
            unfold freeL at HFr
            dsimp only at HFr
            rw [HLL.out] at HFr
            generalize freeN l 60 = V at *
            go_wp2_with fail
            refine HFr.mono ?_
            rintro e w' ⟨rfl, rfl⟩
            clear HFr
            go_wp2_with fail
            refine (lWorks15 w3).mono ?_
            rintro e w4 ⟨rfl, hb4⟩
            have B4 : Hid (Below w.heap.size w w4) := HB.out.trans (hb4.mono HB.out.size)
            clear hb4
            go_wp2_with fail
            go_ret
            exact ⟨rfl, B4.out⟩

set_option maxRecDepth 100000 in
theorem lifted (os : Os) (started : os.Started) (H : Type) (enc : TypeId × Value → H) :
    ReturnsInHanded {} Try.checked os 4 .any (Rows.spaceApartSpec.pre6 enc Try.prog Try.f4 Rows.spaceApartRow.domain false) (Rows.spaceApartSpec.post enc Try.prog Try.f4 false true false false) := by
  refine returnsInHanded_of_change (C := Try.checked) own started (by kernel_rfl) Try.func4
    (ChangeSpec.witness6 (enc := enc) (C := Try.checked) false ⟨#[], #[.int .u8 0, .slice none 0 0, .slice none 0 0], []⟩ 8 (by kernel_rfl) (by kernel_rfl) (by kernel_rfl) (by kernel_rfl)) ?_
  intro W base args ds gs before hval0 hW hcnd _
  have hval : ∀ (j : Nat) t v, Try.f4.params[j]? = some t → args[j]? = some v → Value.okWide Try.prog W .any base t v := hval0
  have hW' := hW
  obtain ⟨p, q, hA0, hV, rfl, hfz, hnd⟩ := hW
  have hA : DataW.TrodAll enc Try.prog W 0 (fun _ => true) true Try.f4.params.toList args.toList ds p := hA0
  rw [Try.params4] at hA hval
  obtain ⟨v0, vs0, d0, ds0, p0, q0, hargs, rfl, rfl, h0, r0⟩ := trodAll_cons hA
  obtain ⟨v1, vs1, d1, ds1, p1, q1, rfl, rfl, rfl, h1, r1⟩ := trodAll_cons r0
  obtain ⟨v2, vs2, d2, ds2, p2, q2, rfl, rfl, rfl, h2, r2⟩ := trodAll_cons r1
  obtain ⟨rfl, rfl, rfl⟩ := trodAll_nil r2
  obtain rfl : args = #[v0, v1, v2] := by cases args; simp_all
  obtain ⟨rfl, rfl⟩ := trodVars_none hV
  obtain ⟨a0, rfl, rfl, rfl, w0⟩ := open_int Try.underlying5 (hval 0 5 v0 rfl rfl) h0
  obtain ⟨a1, len1, cap1, rfl⟩ := okWide_slice Try.underlying46 (hval 1 46 v1 rfl rfl)
  have k1 := h1
  have lt1 : ∀ x ∈ p1, x.block < W.heap.size := by obtain ⟨m, hm⟩ := k1; exact DataW.trod_lt m _ _ _ hm
  obtain ⟨l1, w1⟩ : ∃ l, Bs W a1 len1 cap1 l := by
    obtain ⟨fuel, hf⟩ := h1
    exact Bs.of_trod hf
  obtain ⟨a2, len2, cap2, rfl⟩ := okWide_slice Try.underlying46 (hval 2 46 v2 rfl rfl)
  have k2 := h2
  have lt2 : ∀ x ∈ p2, x.block < W.heap.size := by obtain ⟨m, hm⟩ := k2; exact DataW.trod_lt m _ _ _ hm
  obtain ⟨l2, w2⟩ : ∃ l, Bs W a2 len2 cap2 l := by
    obtain ⟨fuel, hf⟩ := h2
    exact Bs.of_trod hf
  clear hA0 hval0
  refine (walk a0 a1 len1 cap1 l1 a2 len2 cap2 l2 W w0 w1 w2).mono fun e W' ⟨he, bel⟩ => ?_
  subst he
  exact ⟨_, rfl, _, _, _, [], _, [], hW', trodAll_mk1 (shut_bool Try.underlying4 _), (trodAll_cons_mk (shut_int Try.underlying5 w0) (trodAll_cons_mk (Below.trod laidOut (by kernel_rfl) (of_decide_eq_true (by kernel_rfl)) k1 bel lt1) (trodAll_cons_mk (Below.trod laidOut (by kernel_rfl) (of_decide_eq_true (by kernel_rfl)) k2 bel lt2) trodAll_mk0))), rfl, bel.frame _, fun h => by cases h⟩

theorem over : Rows.spaceApartRow.holds Try.pinned (OpenSpec.ofChange Rows.spaceApartSpec) :=
  OpenClaim.holds_of_wide 4 Try.f4 rfl rfl rfl rfl rfl rfl rfl ⟨rfl, rfl, rfl, rfl, rfl⟩ rfl rfl rfl rfl rfl (by kernel_rfl) Try.func4 (by kernel_rfl)
    (of_decide_eq_true (by kernel_rfl)) (by unfold Func.isWrapper; first | (rw [if_pos (by decide +kernel)]; kernel_rfl) | (rw [if_neg (by decide +kernel)]; exact ⟨rfl, rfl⟩))
    (fun os started H enc _ => lifted os started H enc)
end SpaceApartLaw

/-- The statement. -/
theorem spaceApart_holds : Rows.SpaceApartSaid := SpaceApartLaw.over
#print axioms spaceApart_holds
end Go.Proofs.Ytcmbkpdefbaakaa
