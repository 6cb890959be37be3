/-
  Proved: for any acts the statement AnchorRises of layer 14 answers true and leaves its arguments as they were. Conditions beside the statement's own: none.
-/
import Derived.Test.YtbifikeecmaakaaRows
import Derived.Test.YtbifikeecmaakaaG37
import Derived.Below
import Derived.Deep.DeepCutAuto
import Derived.Deep.CutBlock
import Derived.ChangeOld
namespace Go.Proofs.Ytbifikeecmaakaa
namespace AnchorRisesLaw
open Go.ChangeShapes Go.WideShapes Go.ChangeAt Go.RowKit
open Go.ChangeMaps (open_string shut_string)
set_option linter.unusedVariables false

theorem own : ownKnob Try.prog.godebug = none := by kernel_rfl
theorem laidOut : laidOutB Try.prog = true := by kernel_rfl

set_option maxRecDepth 100000 in
set_option maxHeartbeats 4000000 in
theorem walk (a0 : Option Addr) (len0 cap0 : Nat) (l0 : List Op14) (w : World) (w0 : Acts14 w a0 len0 cap0 l0) :
    Calls Try.prog 6 #[.slice a0 len0 cap0] w fun e w' => e = .returned (.bool true) ∧ Below w.heap.size w w' := by
  have W0 : Hid (Acts14 w a0 len0 cap0 l0) := w0
  have hl0 := Sl.len w0
  have hc0 := w0.cap
  have CW : Hid (∀ u, Below w.heap.size w u → Calls Try.prog 8 #[] u fun e w' => e = .returned (.bool true) ∧ Below w.heap.size w w') := fun u hu => (lWorks14 u).mono (by rintro e w' ⟨rfl, h⟩; exact ⟨rfl, hu.trans (h.mono hu.size)⟩)
  have hb0 : Below w.heap.size w w := Below.refl _ _
  clear w0
  by_cases hn : len0 ≤ 60
  · have j60 : ¬ (60 : Int) < (len0 : Int) := by omega
    go_enter Try.func6, Try.ntmps6
    go_wp2_with fail
    refine (oPNew w).mono ?_
    rintro e v1 ⟨r, rfl, hr, hp, hb1⟩
    go_wp2_with fail
    refine (oCNew v1 hp).mono ?_
    rintro e v2 ⟨c, U, F, rfl, hd, hU, hb2⟩
    have S0 : Hid (StaC w v2 c r U F (CelS.new PowS.new)) := StaC.first hb1 hr hd hU hb2
    clear hd hU hb2 hb1 hp hr
    go_wp2_with fail
    refine (oKOpen v2 S0.out.ck.norm CelS.fit_new (by omega) rfl).mono ?_
    rintro e v3 ⟨kz, pz, qz, rfl, hk3, kk, hb3⟩
    have S1 : Hid (StaK w v3 kz c r kep0 pz qz) := by
      have := StaK.first S0.out hk3 kk hb3
      rw [openA_cnew] at this
      exact this
    clear S0 hk3 kk hb3
    go_wp2_with (at_make; refine wpList_mkg _ (by rfl) _ _ rfl v3.heap.size 32 32 rfl rfl rfl (by omega) (Nat.le_refl _) ?_; intro g6 v6 hg6 hgl6 hown6 hb6)
    have S3 : Hid (StaK w v6 kz c r kep0 pz qz) := S1.out.grow hb6
    have CS : Hid (Calls Try.prog 26 #[.pointer (some ⟨kz, 0, none⟩), .agg (anc wA ⟨some ⟨g6, 0, none⟩, 32, 32⟩ t0).toArray] v6 (SaveR v6 kz c r kep0 wA)) := oKSave v6 S3.out.kk CelS.fit_new (by omega) (A := fun j => v3.heap.size ≤ j) (a := wA) (p' := ⟨some ⟨g6, 0, none⟩, 32, 32⟩) (q' := t0) ⟨(hown6.b5 (A := fun j => v3.heap.size ≤ j) (fun j hj _ => hj)).ba, Sl.nil _ _ _ _, i64_0, i64_0, i64_0, ⟨by decide, by decide⟩, i64_0, i64_0⟩ (fun j hj hu => by have := S1.out.kk.lt j hu; omega)
    clear S1 hown6 hb6 hg6 hgl6
    refine CS.out.mono ?_
    rintro e v7 ⟨p7, q7, rfl, kk7, kp7⟩
    rw [wE1.1]
    have I0 : Hid (RiI w v7 0 kz c r wK1 p7 q7 0 0) := ⟨S3.out.after kk7 kp7, RiK_first, wE1.2.2.2⟩
    clear S3 CS kk7 kp7
    go_wp2_with fail
    go_loopw [6, 7, 8, 9] (fun kv lv nv i wr => ∃ (j k : Nat) (K : KepS) (p q : Tri) (L N : Int), j ≤ len0 ∧ i = .int .i64 (j : Int) ∧ kv = .pointer (some ⟨k, 0, none⟩) ∧ lv = .int .i64 L ∧ nv = .int .i64 N ∧ Hid (RiI w wr j k c r K p q L N)) (fun _ _ _ i _ => len0 - (intOf i).toNat)
    case atStart => exact ⟨0, kz, _, p7, q7, 0, 0, Nat.zero_le _, rfl, rfl, rfl, rfl, I0⟩
    case round =>
      clear I0
      obtain ⟨j, k, K, p, q, L, N, hj, rfl, rfl, rfl, rfl, HI0⟩ := hrel
      by_cases hlt : j < len0
      · have i0 : (j : Int) < (len0 : Int) := by omega
        obtain ⟨x, hx⟩ : ∃ x, l0[j]? = some x := ⟨_, List.getElem?_eq_getElem (by omega)⟩
        obtain ⟨b, o, px, qx, rfl, hbl, hrg, hB, hfit⟩ := W0.out.at HI0.out.st.bel hx
        have HI : Hid x.fit := hfit
        obtain ⟨g, hg⟩ : ∃ g, g = wr.heap.size := ⟨_, rfl⟩
        have z9 : Blk (wr.alloc (.cells #[.int .i64 0, .int .i64 0, .int .i64 0, .int .i64 0, .int .i64 0, .int .i64 0, .int .i64 0, .slice none 0 0, .slice none 0 0, .int .i64 0, .int .i64 0, .int .i64 0, .int .i64 0, .bool false] 59)) g zOp14 59 := Blk.newAt wr _ _ g hg.symm _ rfl
        have k9 : Below wr.heap.size wr (wr.alloc (.cells #[.int .i64 0, .int .i64 0, .int .i64 0, .int .i64 0, .int .i64 0, .int .i64 0, .int .i64 0, .slice none 0 0, .slice none 0 0, .int .i64 0, .int .i64 0, .int .i64 0, .int .i64 0, .bool false] 59)) := below_alloc _ _
        clear hx hB hfit
        go_upto_block 2 with (first | ((with_reducible refine at_ld 59 ?_); (refine ld 59 (.tmp 63) 14 sizeO14 _ Try.underlying59 rfl b (o + j * 14) (ok14 x px qx) rfl hrg rfl ?_)) | ((with_reducible refine at_st 59 ?_); (refine st' 59 (.tmp 10) (.tmp 64) 14 sizeO14 wr.heap.size 0 (ok14 x px qx) rfl (ok14_one _ _ _) (by rw [← hg]; exact z9.there 0 14 (by simp [zOp14])) rfl rfl ?_); intro v5 hv5; have b5 : Blk v5 g (ok14 x px qx) 59 := (by rw [hv5, ← hg]; exact z9.setsW _ rfl); have k5 : Below wr.heap.size wr v5 := (by rw [hv5]; exact below_sets (Nat.le_refl _) _ k9 0); have c0x : v5.cell? ⟨wr.heap.size, 0, none⟩ = some (.int .i64 x.kind) := (by rw [← hg]; exact b5.cell 0); have hglx : wr.heap.size < v5.heap.size := (by rw [← hg]; exact b5.lt); clear hv5))
        rw [← hg]
        have I5 : Hid (RiI w v5 j k c r K p q L N) := HI0.out.grow k5
        have c2 : v5.cell? ⟨g, 9, none⟩ = some (.int .i64 x.epoch) := b5.cell 9
        have c3 : v5.cell? ⟨g, 10, none⟩ = some (.int .i64 x.root) := b5.cell 10
        have c4 : v5.cell? ⟨g, 11, none⟩ = some (.int .i64 x.pending) := b5.cell 11
        have c5 : v5.cell? ⟨g, 12, none⟩ = some (.int .i64 x.n) := b5.cell 12
        have c6 : v5.cell? ⟨g, 13, none⟩ = some (.bool x.done) := b5.cell 13
        have hgl := b5.lt
        clear z9 k9 k5 HI0 hrg hg c0x hglx b5
        go_cut [6, 7, 11, 12, 13, 14] from 55 to 132 (fun kv lv _ _ _ _ wx => ∃ (k1 : Nat) (K1 : KepS) (p1 q1 : Tri) (L1 : Int), kv = .pointer (some ⟨k1, 0, none⟩) ∧ lv = .int .i64 L1 ∧ Hid (RiI w wx (j + 1) k1 c r K1 p1 q1 L1 N))
        case first =>
          by_cases h1 : x.kind = 1
          · have b1 : (x.kind == 1) = true := by simp [h1]
            have G1 := I5.out.ri.give I5.out.ft.l
            have f1 := KepS.fit_give I5.out.ft
            have CG : Hid (Calls Try.prog 28 #[.pointer (some ⟨k, 0, none⟩)] v5 (GivR v5 k c r K.give)) := oKGive v5 I5.out.st.kk I5.out.ft (by omega)
            generalize K.give = gv at *
            obtain ⟨K1, n1, c1⟩ := gv
            dsimp only at G1 f1
            go_wp2_with fail
            refine CG.out.mono ?_
            rintro e y1 ⟨p1, q1, rfl, kk1, kp1⟩
            dsimp only at kk1
            dsimp only
            have S2 : Hid (StaK w y1 k c r K1 p1 q1) := I5.out.st.after kk1 kp1
            clear CG kk1 kp1
            by_cases hc1 : c1 = 0
            · obtain ⟨g1, g2⟩ := G1.2 hc1
              have bc : (c1 == 0) = true := by simp [hc1]
              have I6 : Hid (RiI w y1 (j + 1) k c r K1 p1 q1 n1 N) := ⟨S2.out, g2, f1⟩
              have gn : ¬ n1 ≤ L := by omega
              clear I5 S2 G1 g2 f1 hc1
              go_wp2_with fail
              go_meet
              case rel => exact ⟨k, K1, p1, q1, n1, rfl, rfl, I6⟩
            · have bc : (c1 == 0) = false := by simp [hc1]
              have I6 : Hid (RiI w y1 (j + 1) k c r K1 p1 q1 L N) := ⟨S2.out, G1.1, f1⟩
              clear I5 S2 G1 f1 hc1
              go_wp2_with fail
              go_meet
              case rel => exact ⟨k, K1, p1, q1, L, rfl, rfl, I6⟩
          · have b1 : (x.kind == 1) = false := by simp [h1]
            by_cases h2 : x.kind = 2
            · have b2 : (x.kind == 2) = true := by simp [h2]
              have G1 : RiK (K.commit x.epoch x.root x.pending).1 L N := I5.out.ri.commit I5.out.ft.l x.epoch x.root x.pending
              have f1 := KepS.fit_commit I5.out.ft x.epoch x.root x.pending
              have CG : Hid (Calls Try.prog 30 #[.pointer (some ⟨k, 0, none⟩), .int .i64 x.epoch, .int .i64 x.root, .int .i64 x.pending] v5 (MovR v5 k c r (K.commit x.epoch x.root x.pending))) := oKCommit v5 I5.out.st.kk I5.out.ft (by omega) x.epoch x.root x.pending HI.out.2.1 HI.out.2.2.1 HI.out.2.2.2.1
              generalize K.commit x.epoch x.root x.pending = gv at *
              obtain ⟨K1, c1⟩ := gv
              dsimp only at G1 f1
              go_wp2_with fail
              refine CG.out.mono ?_
              rintro e y1 ⟨p1, q1, rfl, kk1, kp1⟩
              dsimp only at kk1
              dsimp only
              have I6 : Hid (RiI w y1 (j + 1) k c r K1 p1 q1 L N) := ⟨I5.out.st.after kk1 kp1, G1, f1⟩
              clear CG kk1 kp1 I5 G1 f1
              go_wp2_with fail
              go_meet
              case rel => exact ⟨k, K1, p1, q1, L, rfl, rfl, I6⟩
            · have b2 : (x.kind == 2) = false := by simp [h2]
              by_cases h3 : x.kind = 3
              · have b3 : (x.kind == 3) = true := by simp [h3]
                have G1 : RiK (K.clean).1 L N := I5.out.ri.clean I5.out.ft.l
                have f1 := KepS.fit_clean I5.out.ft
                have CG : Hid (Calls Try.prog 32 #[.pointer (some ⟨k, 0, none⟩)] v5 (MovR v5 k c r (K.clean))) := oKClean v5 I5.out.st.kk I5.out.ft (by omega)
                generalize K.clean = gv at *
                obtain ⟨K1, c1⟩ := gv
                dsimp only at G1 f1
                go_wp2_with fail
                refine CG.out.mono ?_
                rintro e y1 ⟨p1, q1, rfl, kk1, kp1⟩
                dsimp only at kk1
                dsimp only
                have I6 : Hid (RiI w y1 (j + 1) k c r K1 p1 q1 L N) := ⟨I5.out.st.after kk1 kp1, G1, f1⟩
                clear CG kk1 kp1 I5 G1 f1
                go_wp2_with fail
                go_meet
                case rel => exact ⟨k, K1, p1, q1, L, rfl, rfl, I6⟩
              · have b3 : (x.kind == 3) = false := by simp [h3]
                by_cases h4 : x.kind = 4
                · have b4 : (x.kind == 4) = true := by simp [h4]
                  have f1 : (K.c.p.set x.n x.done).fit (j + 1 + 1) := PowS.fit_mono (PowS.fit_set I5.out.ft.p HI.out.2.2.2.2.2 x.done) (by omega)
                  have CG : Hid (Calls Try.prog 33 #[.pointer (some ⟨r, 0, none⟩), .int .i64 x.n, .bool x.done] v5 fun e w' => e = .returned (.tuple #[]) ∧ Pw w' r (K.c.p.set x.n x.done) ∧ Kp (fun j => j = r) v5 w') := oPFuse v5 I5.out.st.pw x.n x.done HI.out.2.2.2.2
                  go_wp2_with fail
                  refine CG.out.mono ?_
                  rintro e y1 ⟨rfl, hp1, kr⟩
                  have I6 : Hid (RiI w y1 (j + 1) k c r ⟨{ K.c with p := K.c.p.set x.n x.done }, K.last⟩ p q L N) := ⟨I5.out.st.power hp1 kr, I5.out.ri.fuse x.n x.done, (I5.out.ft.mono (by omega)).power f1⟩
                  clear CG hp1 kr I5 f1
                  go_wp2_with fail
                  go_meet
                  case rel => exact ⟨k, _, p, q, L, rfl, rfl, I6⟩
                · have b4 : (x.kind == 4) = false := by simp [h4]
                  by_cases h5 : x.kind = 5
                  · have b5 : (x.kind == 5) = true := by simp [h5]
                    have CG : Hid (Calls Try.prog 35 #[.pointer (some ⟨r, 0, none⟩)] v5 fun e w' => e = .returned (.tuple #[]) ∧ Pw w' r K.c.p.back ∧ Kp (fun j => j = r) v5 w') := oPBack v5 I5.out.st.pw
                    go_wp2_with fail
                    refine CG.out.mono ?_
                    rintro e y1 ⟨rfl, hp1, kr⟩
                    have S2 : Hid (StaK w y1 k c r ⟨{ K.c with p := K.c.p.back }, K.last⟩ p q) := I5.out.st.power hp1 kr
                    have f2 : ({ K.c with p := K.c.p.back } : CelS).fit (j + 1) := I5.out.ft.power (PowS.fit_back I5.out.ft.p)
                    have R2 := I5.out.ri.open K.c.p.back
                    obtain ⟨C2, hC2⟩ : ∃ C2 : CelS, C2 = { K.c with p := K.c.p.back } := ⟨_, rfl⟩
                    have hd2 : C2.p.down = false := by rw [hC2]; rfl
                    rw [← hC2] at S2 f2 R2
                    clear hC2 CG hp1 kr I5
                    have CO : Hid (Calls Try.prog 21 #[.pointer (some ⟨c, 0, none⟩)] y1 (OpenR y1 c r C2)) := oKOpen y1 S2.out.kk.ck f2 (by omega) hd2
                    go_wp2_with fail
                    refine CO.out.mono ?_
                    rintro e y2 ⟨k2, p2, q2, rfl, hk2, kk2, hb2⟩
                    have I6 : Hid (RiI w y2 (j + 1) k2 c r ⟨C2, openA C2⟩ p2 q2 L N) := ⟨S2.out.opened hk2 kk2 hb2, R2, f2.mono (by omega)⟩
                    clear CO S2 f2 R2 hk2 kk2 hb2 hd2
                    go_wp2_with fail
                    go_meet
                    case rel => exact ⟨k2, _, p2, q2, L, rfl, rfl, I6⟩
                  · have b5 : (x.kind == 5) = false := by simp [h5]
                    have I6 : Hid (RiI w v5 (j + 1) k c r K p q L N) := I5.out.more
                    clear I5
                    go_wp2_with fail
                    go_meet
                    case rel => exact ⟨k, K, p, q, L, rfl, rfl, I6⟩
        case rest =>
          obtain ⟨k1, K1, p1, q1, L1, rfl, rfl, I6⟩ := hcut
          have hhas := I6.out.ri.has
          have hce := I6.out.ri.ce
          have CL : Hid (Calls Try.prog 37 #[.pointer (some ⟨k1, 0, none⟩)] wc (LastR wc K1)) := oKLast wc I6.out.st.kk
          go_wp2_with fail
          refine CL.out.mono ?_
          rintro e y7 ⟨p7, q7, rfl, an7, hb7⟩
          rw [hhas]
          have I7 : Hid (RiI w y7 (j + 1) k1 c r K1 p1 q1 L1 K1.last.epoch) := ⟨I6.out.st.grow hb7, I6.out.ri.at, I6.out.ft⟩
          obtain ⟨ep, hep⟩ : ∃ ep, ep = K1.last.epoch := ⟨_, rfl⟩
          rw [← hep] at I7 hce
          have HEP : Hid (ep = K1.last.epoch) := hep
          clear hep
          obtain ⟨g7, hg7⟩ : ∃ g7, g7 = y7.heap.size := ⟨_, rfl⟩
          have z7 : Blk (y7.alloc (.cells #[.int .i64 0, .int .i64 0, .int .i64 0, .int .i64 0, .int .i64 0, .int .i64 0, .slice none 0 0, .slice none 0 0] 25)) g7 zanc 25 := Blk.newAt y7 _ _ g7 hg7.symm _ rfl
          have k7 : Below y7.heap.size y7 (y7.alloc (.cells #[.int .i64 0, .int .i64 0, .int .i64 0, .int .i64 0, .int .i64 0, .int .i64 0, .slice none 0 0, .slice none 0 0] 25)) := below_alloc _ _
          unfold anV
          clear CL I6 hb7 an7 hhas
          go_wp2_with ((with_reducible refine at_st 25 ?_); (refine st' 25 (.tmp 15) (.tmp 121) 8 sizeAn y7.heap.size 0 (anc K1.last p7 q7) rfl (anc_one _ _ _) (by rw [← hg7]; exact z7.there 0 8 (by simp [zanc])) rfl rfl ?_); intro y8 hy8; have b8 : Blk y8 g7 (anc K1.last p7 q7) 25 := (by rw [hy8, ← hg7]; exact z7.setsW _ rfl); have k8 : Below y7.heap.size y7 y8 := (by rw [hy8]; exact below_sets (Nat.le_refl _) _ k7 0); have e8 : y8.cell? ⟨y7.heap.size, 1, none⟩ = some (.int .i64 ep) := (by rw [HEP.out, ← hg7]; exact b8.cell 1); have l8 : y7.heap.size < y8.heap.size := (by rw [← hg7]; exact b8.lt); have n8 : ¬ ep < N := (by omega); clear hy8 z7 k7)
          have I8 : Hid (RiI w y8 (j + 1) k1 c r K1 p1 q1 L1 ep) := I7.out.grow k8
          clear I7 b8 k8 e8 HEP hg7 hce n8
          go_roundw
          case rel => exact ⟨j + 1, k1, K1, p1, q1, L1, ep, by omega, by go_num, rfl, rfl, rfl, I8⟩
          case measure => simp [intOf]; omega
      · have i0 : ¬ (j : Int) < (len0 : Int) := by omega
        have hbT := HI0.out.st.bel
        clear HI0
        go_wp2_with fail
        refine (CW.out wr hbT).mono ?_
        rintro e ww ⟨rfl, hbw⟩
        go_wp2_with fail
        go_ret
        exact ⟨rfl, hbw⟩
  · have j60 : (60 : Int) < (len0 : Int) := by omega
    go_enter Try.func6, Try.ntmps6
    go_wp2_with fail
    refine (CW.out w hb0).mono ?_
    rintro e ww ⟨rfl, hbw⟩
    go_wp2_with fail
    go_ret
    exact ⟨rfl, hbw⟩

set_option maxRecDepth 100000 in
theorem lifted (os : Os) (started : os.Started) (H : Type) (enc : TypeId × Value → H) :
    ReturnsInHanded {} Try.checked os 6 .any (Rows.anchorRisesSpec.pre6 enc Try.prog Try.f6 Rows.anchorRisesRow.domain false) (Rows.anchorRisesSpec.post enc Try.prog Try.f6 false true false false) := by
  refine returnsInHanded_of_change (C := Try.checked) own started (by kernel_rfl) Try.func6
    (ChangeSpec.witness6 (enc := enc) (C := Try.checked) false ⟨#[], #[.slice none 0 0], []⟩ 8 (by kernel_rfl) (by kernel_rfl) (by kernel_rfl) (by kernel_rfl)) ?_
  intro W base args ds gs before hval0 hW hcnd _
  have hval : ∀ (j : Nat) t v, Try.f6.params[j]? = some t → args[j]? = some v → Value.okWide Try.prog W .any base t v := hval0
  have hW' := hW
  obtain ⟨p, q, hA0, hV, rfl, hfz, hnd⟩ := hW
  have hA : DataW.TrodAll enc Try.prog W 0 (fun _ => true) true Try.f6.params.toList args.toList ds p := hA0
  rw [Try.params6] at hA hval
  obtain ⟨v0, vs0, d0, ds0, p0, q0, hargs, rfl, rfl, h0, r0⟩ := trodAll_cons hA
  obtain ⟨rfl, rfl, rfl⟩ := trodAll_nil r0
  obtain rfl : args = #[v0] := by cases args; simp_all
  obtain ⟨rfl, rfl⟩ := trodVars_none hV
  obtain ⟨a0, len0, cap0, rfl⟩ := okWide_slice Try.underlying38 (hval 0 38 v0 rfl rfl)
  have k0 := h0
  have lt0 : ∀ x ∈ p0, x.block < W.heap.size := by obtain ⟨m, hm⟩ := k0; exact DataW.trod_lt m _ _ _ hm
  obtain ⟨l0, w0⟩ : ∃ l, Acts14 W a0 len0 cap0 l := by
    obtain ⟨fuel, hf⟩ := h0
    exact acts14_of_trod hf
  clear hA0 hval0
  refine (walk a0 len0 cap0 l0 W w0).mono fun e W' ⟨he, bel⟩ => ?_
  subst he
  exact ⟨_, rfl, _, _, _, [], _, [], hW', trodAll_mk1 (shut_bool Try.underlying4 _), (trodAll_cons_mk (Below.trod laidOut (by kernel_rfl) (of_decide_eq_true (by kernel_rfl)) k0 bel lt0) trodAll_mk0), rfl, bel.frame _, fun h => by cases h⟩

theorem over : Rows.anchorRisesRow.holds Try.pinned (OpenSpec.ofChange Rows.anchorRisesSpec) :=
  OpenClaim.holds_of_wide 6 Try.f6 rfl rfl rfl rfl rfl rfl rfl ⟨rfl, rfl, rfl, rfl, rfl⟩ rfl rfl rfl rfl rfl (by kernel_rfl) Try.func6 (by kernel_rfl)
    (of_decide_eq_true (by kernel_rfl)) (by unfold Func.isWrapper; first | (rw [if_pos (by decide +kernel)]; kernel_rfl) | (rw [if_neg (by decide +kernel)]; exact ⟨rfl, rfl⟩))
    (fun os started H enc _ => lifted os started H enc)
end AnchorRisesLaw

/-- The statement. -/
theorem anchorRises_holds : Rows.AnchorRisesSaid := AnchorRisesLaw.over
#print axioms anchorRises_holds
end Go.Proofs.Ytbifikeecmaakaa
