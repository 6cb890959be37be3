/-
  Proved: for every row of bytes and list of asks the statement OctetReads of layer 1 answers true and leaves its arguments as they were. No condition beside the statement's own.
-/
import Derived.Test.YtabokdffhomhiaaRows
import Derived.Test.YtabokdffhomhiaaReadsPre
import Derived.Below
import Derived.ChangeOld
namespace Go.Proofs.Ytabokdffhomhiaa
namespace OctetReadsLaw
open Go.ChangeShapes Go.WideShapes Go.ChangeAt Go.RowKit
open Go.ChangeMaps (open_string shut_string)
set_option linter.unusedVariables false

theorem own : ownKnob Try.prog.godebug = none := by kernel_rfl
theorem laidOut : laidOutB Try.prog = true := by kernel_rfl

set_option maxHeartbeats 8000000 in
set_option maxRecDepth 100000 in
theorem walk (a0 : Option Addr) (len0 cap0 : Nat) (l0 : List UInt8) (a1 : Option Addr) (len1 cap1 : Nat) (l1 : List (Int × Int × Int)) (w : World) (w0 : Bs w a0 len0 cap0 l0) (w1 : Asks w a1 len1 cap1 l1) :
    Calls Try.prog 7 #[.slice a0 len0 cap0, .slice a1 len1 cap1] w fun e w' => e = .returned (.bool true) ∧ Below w.heap.size w w' := by
  have hl := w0.len
  have hmax := w0.max
  have hn1 := w1.2.1
  have hc1 := w1.2.2.1
  unfold maxLen at hc1
  by_cases h1 : (3000 : Int) < len0
  · go_enter Try.func7, Try.ntmps7
    go_wp2_with (go_at_call 8; refine (lWorks _).mono ?_; rintro e w2 ⟨rfl, hb1⟩)
    go_ret
    exact ⟨rfl, hb1⟩
  · by_cases h2 : (40 : Int) < len1
    · go_enter Try.func7, Try.ntmps7
      go_wp2_with (go_at_call 8; refine (lWorks _).mono ?_; rintro e w2 ⟨rfl, hb1⟩)
      go_ret
      exact ⟨rfl, hb1⟩
    · have W0 : Hid (Bs w a0 len0 cap0 l0) := w0
      have W1 : Hid (Asks w a1 len1 cap1 l1) := w1
      have hR : Hid (Calls Try.prog 25 #[.slice a0 len0 cap0] w fun e w' => ∃ r, e = .returned (.pointer (some ⟨r, 0, none⟩)) ∧ w.heap.size ≤ r ∧ Rd w' r l0 0 ∧ Below w.heap.size w w') := oRead w w0 (by omega)
      clear w0 w1
      go_enter Try.func7, Try.ntmps7
      go_wp2_with fail
      refine hR.out.mono ?_
      rintro e w2 ⟨r, rfl, hr, hrd, hb2⟩
      clear hR
      have hlt := hrd.lt
      go_wp2_with fail
      go_loopw [7] (fun i wr => ∃ k : Nat, k ≤ len1 ∧ i = .int .i64 k ∧ Inv w wr r w2.heap.size) (fun i _ => len1 - (intOf i).toNat)
      case atStart => exact ⟨0, Nat.zero_le _, rfl, l0, 0, a0, len0, cap0, hrd.below (below_alloc _ _) (Nat.le_refl _), bx_new _ _ _ _, W0.out, by omega, hb2.alloc hb2.size _⟩
      case round =>
        obtain ⟨k, hk, rfl, l, c, a, n, q, hrd, hbx, hbs, hln, hb⟩ := hrel
        by_cases hlt1 : k < len1
        · obtain ⟨b, o, x, y, z, rfl, cx, cy, cz, ⟨bx0, bx1⟩, ⟨by0, by1⟩, ⟨bz0, bz1⟩⟩ := W1.out.2.2.2 k hlt1
          have hbl := lt_of_cell cx
          have d0 : wr.cell? ⟨b, o + k * 3, none⟩ = some (.int .i64 x) := by rw [hb.cell (p := ⟨b, o + k * 3, none⟩) hbl]; exact cx
          have d1 : wr.cell? ⟨b, o + k * 3 + 1, none⟩ = some (.int .i64 y) := by rw [hb.cell (p := ⟨b, o + k * 3 + 1, none⟩) hbl]; exact cy
          have d2 : wr.cell? ⟨b, o + k * 3 + 2, none⟩ = some (.int .i64 z) := by rw [hb.cell (p := ⟨b, o + k * 3 + 2, none⟩) hbl]; exact cz
          have hX := hbx.lt
          obtain ⟨e0, e1, f0, f1⟩ := id hbx
          clear cx cy cz
          by_cases hx0 : x = 0
          · subst hx0
            have hbA : Below w.heap.size w (wr.alloc (.cells #[.int .i64 0, .int .i64 y, .int .i64 z] 44)) := hb.alloc hb.size _
            have rdA := hrd.below (below_alloc wr (.cells #[.int .i64 0, .int .i64 y, .int .i64 z] 44)) (Nat.le_refl _)
            have bxA := hbx.below (below_alloc wr (.cells #[.int .i64 0, .int .i64 y, .int .i64 z] 44)) (Nat.le_refl _)
            have akA := ak_new wr 0 y z 44
            have hN := fun W (h : Rd W r l c) => oNumber W r h y (by omega) by0 by1
            have hln3 := rdBytes_short l c y hln
            have hM := rNumber _ (hbs.below hbA (Nat.le_refl _)) c y by0 by1
            generalize rdBytes l c y = s at *
            obtain ⟨l4, c4, t4⟩ := s
            dsimp only at hN hln3 hM
            have HN : Hid (∀ W, Rd W r l c → Calls Try.prog 27 #[.pointer (some ⟨r, 0, none⟩), .int .i64 y] W fun e w' => e = .returned (.int .u64 (getN t4 : Nat)) ∧ Rd w' r l4 c4 ∧ W.grownBy w' (some r)) := hN
            clear hN
            generalize getN t4 = g at *
            have HM : Hid (Calls Try.prog 26 #[.agg #[.slice a n q, .int .i64 c], .int .i64 y] (wr.alloc (.cells #[.int .i64 0, .int .i64 y, .int .i64 z] 44)) fun e w' => ∃ a' n' q', e = .returned (.tuple #[.agg #[.slice a' n' q', .int .i64 c4], .int .u64 g]) ∧ (∀ W, Bs W a n q l → Bs W a' n' q' l4) ∧ Below (wr.alloc (.cells #[.int .i64 0, .int .i64 y, .int .i64 z] 44)).heap.size (wr.alloc (.cells #[.int .i64 0, .int .i64 y, .int .i64 z] 44)) w') := hM
            clear hM
            go_wp2_with fail
            refine HM.out.mono ?_
            rintro e w3 ⟨a', n', q', rfl, hT, hb3⟩
            have b3 := hbA.trans (hb3.mono hbA.size)
            have rd3 := rdA.below hb3 (Nat.le_refl _)
            have bx3 := bxA.below hb3 (Nat.le_refl _)
            have ak3 := akA.below hb3 (Nat.le_refl _)
            have hX3 := bx3.lt
            have hO3 := ak3.lt
            clear hbA rdA bxA akA hb3 e0 e1 f0 f1 hrd hbx d0 d1 d2 hb HM
            obtain ⟨e0, e1, f0, f1⟩ := id bx3
            obtain ⟨d0, d1, d2⟩ := id ak3
            go_wp2_with fail
            obtain ⟨rdC, bxC, bC, akC⟩ := after_store b3 rd3 bx3 hlt hb2.size b3.size (.slice a' n' q') (.int .i64 c4) (.cells #[.slice a' n' q', .int .i64 c4] 42)
            refine (HN.out _ rdC).mono ?_
            rintro e w4 ⟨rfl, rd4, hg4⟩
            have bx4 := bxC.but hg4 (by omega)
            have b4 := below_of_but bC hg4 hr bC.size
            have hs4 := hT w hbs
            have hln4 := hln3
            clear rdC bxC bC akC b3 rd3 bx3 ak3 hg4 e0 e1 f0 f1 d0 d1 d2 hT HN hbs hln3
            have hCode : Hid (∀ d, Calls Try.prog 33 #[.pointer (some ⟨r, 0, none⟩)] (w4.drewN d) fun e w' => e = .returned (.int .i64 c4) ∧ w' = w4.drewN d) := fun d => oCode _ r (rd4.drewN d)
            have hLeft : Hid (∀ d, Calls Try.prog 34 #[.pointer (some ⟨r, 0, none⟩)] (w4.drewN d) fun e w' => e = .returned (.int .i64 n') ∧ w' = w4.drewN d) := fun d => by
              have := oLeft _ r (rd4.drewN d)
              rw [hs4.len] at this
              exact this
            have HI : Hid (∀ d, Inv w (w4.drewN d) r w2.heap.size) := fun d => inv_next rd4 bx4 hs4 hln4 b4
            have hX4 := bx4.lt
            obtain ⟨e0, e1, _, _⟩ := id bx4
            clear rd4 bx4 hs4 hln4 b4
            go_wp2_with fail
            go_quiet ((first | (go_at_call 33; exact Calls.quiet_of_same (hCode.out _)) | (go_at_call 34; exact Calls.quiet_of_same (hLeft.out _))))
            go_wp2_with fail
            go_roundw
            case rel => exact ⟨k + 1, by omega, by go_num, HI.out _⟩
            case measure => simp [intOf]; omega
          · have hx0' : (x == 0) = false := by simp [hx0]
            by_cases hx1 : x = 1
            · subst hx1
              have hbA : Below w.heap.size w (wr.alloc (.cells #[.int .i64 1, .int .i64 y, .int .i64 z] 44)) := hb.alloc hb.size _
              have rdA := hrd.below (below_alloc wr (.cells #[.int .i64 1, .int .i64 y, .int .i64 z] 44)) (Nat.le_refl _)
              have bxA := hbx.below (below_alloc wr (.cells #[.int .i64 1, .int .i64 y, .int .i64 z] 44)) (Nat.le_refl _)
              have akA := ak_new wr 1 y z 44
              have hN := fun W (h : Rd W r l c) => oBytes W r h y (by omega) by0 by1
              have hln3 := rdBytes_short l c y hln
              have hM := rBytes _ (hbs.below hbA (Nat.le_refl _)) c y by0 by1
              generalize rdBytes l c y = s at *
              obtain ⟨l4, c4, t4⟩ := s
              have HN : Hid (∀ W, Rd W r l c → Calls Try.prog 29 #[.pointer (some ⟨r, 0, none⟩), .int .i64 y] W (Reads W r (l4, c4, t4))) := hN
              have HM : Hid (Calls Try.prog 28 #[.agg #[.slice a n q, .int .i64 c], .int .i64 y] (wr.alloc (.cells #[.int .i64 1, .int .i64 y, .int .i64 z] 44)) (RefReads (wr.alloc (.cells #[.int .i64 1, .int .i64 y, .int .i64 z] 44)) a n q l (l4, c4, t4))) := hM
              dsimp only at hln3
              clear hN hM
              go_wp2_with fail
              refine HM.out.mono ?_
              rintro e w3 ⟨a', n', q', a2, n2, q2, rfl, hT, hb3⟩
              dsimp only at hT ⊢
              have b3 := hbA.trans (hb3.mono hbA.size)
              have rd3 := rdA.below hb3 (Nat.le_refl _)
              have bx3 := bxA.below hb3 (Nat.le_refl _)
              have ak3 := akA.below hb3 (Nat.le_refl _)
              have hX3 := bx3.lt
              have hO3 := ak3.lt
              clear hbA rdA bxA akA hb3 e0 e1 f0 f1 hrd hbx d0 d1 d2 hb HM
              obtain ⟨e0, e1, f0, f1⟩ := id bx3
              obtain ⟨d0, d1, d2⟩ := id ak3
              go_wp2_with fail
              obtain ⟨rdC, bxC, bC, akC⟩ := after_store b3 rd3 bx3 hlt hb2.size b3.size (.slice a' n' q') (.int .i64 c4) (.cells #[.slice a' n' q', .int .i64 c4] 42)
              refine (HN.out _ rdC).mono ?_
              rintro e w5 ⟨a5, n5, q5, rfl, ho5, rd5, hg5⟩
              have bx5 := bxC.but hg5 (by omega)
              have b5 := below_of_but bC hg5 hr bC.size
              have hs4 := (hT w hbs).1
              have ht4 := (hT w hbs).2
              have hln4 := hln3
              clear rdC bxC bC akC b3 rd3 bx3 ak3 hg5 e0 e1 f0 f1 d0 d1 d2 hT HN hbs hln3
              dsimp only at rd5 ho5
              go_wp2_with fail
              have hS := rSame w5 ho5.toBs (ht4.below b5 (Nat.le_refl _))
              rw [decide_eq_true rfl] at hS
              refine hS.mono ?_
              rintro e w6 ⟨rfl, d6, rfl⟩
              have rd4 := rd5.drewN d6
              have bx4 := bx5.drewN d6
              have b4 := b5.trans ((below_drewN' w5 d6).mono b5.size)
              clear hS ho5 ht4 rd5 bx5 b5
              generalize w5.drewN d6 = w4 at *
              have hCode : Hid (∀ d, Calls Try.prog 33 #[.pointer (some ⟨r, 0, none⟩)] (w4.drewN d) fun e w' => e = .returned (.int .i64 c4) ∧ w' = w4.drewN d) := fun d => oCode _ r (rd4.drewN d)
              have hLeft : Hid (∀ d, Calls Try.prog 34 #[.pointer (some ⟨r, 0, none⟩)] (w4.drewN d) fun e w' => e = .returned (.int .i64 n') ∧ w' = w4.drewN d) := fun d => by
                have := oLeft _ r (rd4.drewN d)
                rw [hs4.len] at this
                exact this
              have HI : Hid (∀ d, Inv w (w4.drewN d) r w2.heap.size) := fun d => inv_next rd4 bx4 hs4 hln4 b4
              have hX4 := bx4.lt
              obtain ⟨e0, e1, _, _⟩ := id bx4
              clear rd4 bx4 hs4 hln4 b4
              go_wp2_with fail
              go_quiet ((first | (go_at_call 33; exact Calls.quiet_of_same (hCode.out _)) | (go_at_call 34; exact Calls.quiet_of_same (hLeft.out _))))
              go_wp2_with fail
              go_roundw
              case rel => exact ⟨k + 1, by omega, by go_num, HI.out _⟩
              case measure => simp [intOf]; omega
            · have hx1' : (x == 1) = false := by simp [hx1]
              by_cases hx2 : x = 2
              · subst hx2
                have hbA : Below w.heap.size w (wr.alloc (.cells #[.int .i64 2, .int .i64 y, .int .i64 z] 44)) := hb.alloc hb.size _
                have rdA := hrd.below (below_alloc wr (.cells #[.int .i64 2, .int .i64 y, .int .i64 z] 44)) (Nat.le_refl _)
                have bxA := hbx.below (below_alloc wr (.cells #[.int .i64 2, .int .i64 y, .int .i64 z] 44)) (Nat.le_refl _)
                have akA := ak_new wr 2 y z 44
                have hN := fun W (h : Rd W r l c) => oText W r h y z (by omega) by0 by1 bz0 bz1
                have hln3 := rdText_short l c y z hln
                have hM := rText _ (hbs.below hbA (Nat.le_refl _)) c y z by0 by1 bz0 bz1
                generalize rdText l c y z = s at *
                obtain ⟨l4, c4, t4⟩ := s
                have HN : Hid (∀ W, Rd W r l c → Calls Try.prog 31 #[.pointer (some ⟨r, 0, none⟩), .int .i64 y, .int .i64 z] W (Reads W r (l4, c4, t4))) := hN
                have HM : Hid (Calls Try.prog 30 #[.agg #[.slice a n q, .int .i64 c], .int .i64 y, .int .i64 z] (wr.alloc (.cells #[.int .i64 2, .int .i64 y, .int .i64 z] 44)) (RefReads (wr.alloc (.cells #[.int .i64 2, .int .i64 y, .int .i64 z] 44)) a n q l (l4, c4, t4))) := hM
                dsimp only at hln3
                clear hN hM
                go_wp2_with fail
                refine HM.out.mono ?_
                rintro e w3 ⟨a', n', q', a2, n2, q2, rfl, hT, hb3⟩
                dsimp only at hT ⊢
                have b3 := hbA.trans (hb3.mono hbA.size)
                have rd3 := rdA.below hb3 (Nat.le_refl _)
                have bx3 := bxA.below hb3 (Nat.le_refl _)
                have ak3 := akA.below hb3 (Nat.le_refl _)
                have hX3 := bx3.lt
                have hO3 := ak3.lt
                clear hbA rdA bxA akA hb3 e0 e1 f0 f1 hrd hbx d0 d1 d2 hb HM
                obtain ⟨e0, e1, f0, f1⟩ := id bx3
                obtain ⟨d0, d1, d2⟩ := id ak3
                go_wp2_with fail
                obtain ⟨rdC, bxC, bC, akC⟩ := after_store b3 rd3 bx3 hlt hb2.size b3.size (.slice a' n' q') (.int .i64 c4) (.cells #[.slice a' n' q', .int .i64 c4] 42)
                refine (HN.out _ rdC).mono ?_
                rintro e w5 ⟨a5, n5, q5, rfl, ho5, rd5, hg5⟩
                have bx5 := bxC.but hg5 (by omega)
                have b5 := below_of_but bC hg5 hr bC.size
                have hs4 := (hT w hbs).1
                have ht4 := (hT w hbs).2
                have hln4 := hln3
                clear rdC bxC bC akC b3 rd3 bx3 ak3 hg5 e0 e1 f0 f1 d0 d1 d2 hT HN hbs hln3
                dsimp only at rd5 ho5
                go_wp2_with fail
                have hS := rSame w5 ho5.toBs (ht4.below b5 (Nat.le_refl _))
                rw [decide_eq_true rfl] at hS
                refine hS.mono ?_
                rintro e w6 ⟨rfl, d6, rfl⟩
                have rd4 := rd5.drewN d6
                have bx4 := bx5.drewN d6
                have b4 := b5.trans ((below_drewN' w5 d6).mono b5.size)
                clear hS ho5 ht4 rd5 bx5 b5
                generalize w5.drewN d6 = w4 at *
                have hCode : Hid (∀ d, Calls Try.prog 33 #[.pointer (some ⟨r, 0, none⟩)] (w4.drewN d) fun e w' => e = .returned (.int .i64 c4) ∧ w' = w4.drewN d) := fun d => oCode _ r (rd4.drewN d)
                have hLeft : Hid (∀ d, Calls Try.prog 34 #[.pointer (some ⟨r, 0, none⟩)] (w4.drewN d) fun e w' => e = .returned (.int .i64 n') ∧ w' = w4.drewN d) := fun d => by
                  have := oLeft _ r (rd4.drewN d)
                  rw [hs4.len] at this
                  exact this
                have HI : Hid (∀ d, Inv w (w4.drewN d) r w2.heap.size) := fun d => inv_next rd4 bx4 hs4 hln4 b4
                have hX4 := bx4.lt
                obtain ⟨e0, e1, _, _⟩ := id bx4
                clear rd4 bx4 hs4 hln4 b4
                go_wp2_with fail
                go_quiet ((first | (go_at_call 33; exact Calls.quiet_of_same (hCode.out _)) | (go_at_call 34; exact Calls.quiet_of_same (hLeft.out _))))
                go_wp2_with fail
                go_roundw
                case rel => exact ⟨k + 1, by omega, by go_num, HI.out _⟩
                case measure => simp [intOf]; omega
              · have hx2' : (x == 2) = false := by simp [hx2]
                by_cases hx3 : x = 3
                · subst hx3
                  by_cases hm : (y.tmod 5 == 0) = true
                  · by_cases hc0 : c = 0
                    · subst hc0
                      have g1 := but_set wr w2.heap.size 1 (.int .i64 1)
                      have rdA := (hrd.but g1 hlt).below (below_alloc _ (.cells #[.int .i64 3, .int .i64 y, .int .i64 z] 44)) (Nat.le_refl _)
                      have bxA := (hbx.set1 (.int .i64 1)).below (below_alloc _ (.cells #[.int .i64 3, .int .i64 y, .int .i64 z] 44)) (Nat.le_refl _)
                      have bA := (below_of_but hb g1 hb2.size hb.size).alloc (Nat.le_trans hb.size g1.size) (.cells #[.int .i64 3, .int .i64 y, .int .i64 z] 44)
                      have HF : Hid (Calls Try.prog 32 #[.pointer (some ⟨r, 0, none⟩), .int .i64 1] ((wr.setCell ⟨w2.heap.size, 1, none⟩ (.int .i64 1)).alloc (.cells #[.int .i64 3, .int .i64 y, .int .i64 z] 44)) fun e w' => e = .returned (.tuple #[]) ∧ Rd w' r l 1 ∧ ((wr.setCell ⟨w2.heap.size, 1, none⟩ (.int .i64 1)).alloc (.cells #[.int .i64 3, .int .i64 y, .int .i64 z] 44)).grownBy w' (some r)) := oFail _ r rdA 1
                      clear hrd hbx hb g1 rdA
                      go_wp2_with fail
                      refine HF.out.mono ?_
                      rintro e w4 ⟨rfl, rd4, hg4⟩
                      have bx4 := bxA.but hg4 (by omega)
                      have b4 := below_of_but bA hg4 hr bA.size
                      have hs4 := hbs
                      have hln4 := hln
                      clear bxA bA HF hg4 e0 e1 f0 f1 d0 d1 d2
                      have hCode : Hid (∀ d, Calls Try.prog 33 #[.pointer (some ⟨r, 0, none⟩)] (w4.drewN d) fun e w' => e = .returned (.int .i64 1) ∧ w' = w4.drewN d) := fun d => oCode _ r (rd4.drewN d)
                      have hLeft : Hid (∀ d, Calls Try.prog 34 #[.pointer (some ⟨r, 0, none⟩)] (w4.drewN d) fun e w' => e = .returned (.int .i64 n) ∧ w' = w4.drewN d) := fun d => by
                        have := oLeft _ r (rd4.drewN d)
                        rw [hs4.len] at this
                        exact this
                      have HI : Hid (∀ d, Inv w (w4.drewN d) r w2.heap.size) := fun d => inv_next rd4 bx4 hs4 hln4 b4
                      have hX4 := bx4.lt
                      obtain ⟨e0, e1, _, _⟩ := id bx4
                      clear rd4 bx4 hs4 hln4 b4
                      go_wp2_with fail
                      go_quiet ((first | (go_at_call 33; exact Calls.quiet_of_same (hCode.out _)) | (go_at_call 34; exact Calls.quiet_of_same (hLeft.out _))))
                      go_wp2_with fail
                      go_roundw
                      case rel => exact ⟨k + 1, by omega, by go_num, HI.out _⟩
                      case measure => simp [intOf]; omega
                    · have hc0' : (c == 0) = false := by simp [hc0]
                      have rdA := hrd.below (below_alloc wr (.cells #[.int .i64 3, .int .i64 y, .int .i64 z] 44)) (Nat.le_refl _)
                      have bxA := hbx.below (below_alloc wr (.cells #[.int .i64 3, .int .i64 y, .int .i64 z] 44)) (Nat.le_refl _)
                      have bA := hb.alloc hb.size (.cells #[.int .i64 3, .int .i64 y, .int .i64 z] 44)
                      have hF := oFail _ r rdA 1
                      rw [if_neg hc0] at hF
                      have HF : Hid (Calls Try.prog 32 #[.pointer (some ⟨r, 0, none⟩), .int .i64 1] (wr.alloc (.cells #[.int .i64 3, .int .i64 y, .int .i64 z] 44)) fun e w' => e = .returned (.tuple #[]) ∧ Rd w' r l c ∧ (wr.alloc (.cells #[.int .i64 3, .int .i64 y, .int .i64 z] 44)).grownBy w' (some r)) := hF
                      clear hrd hbx hb rdA hF hc0
                      go_wp2_with fail
                      refine HF.out.mono ?_
                      rintro e w4 ⟨rfl, rd4, hg4⟩
                      have bx4 := bxA.but hg4 (by omega)
                      have b4 := below_of_but bA hg4 hr bA.size
                      have hs4 := hbs
                      have hln4 := hln
                      clear bxA bA HF hg4 e0 e1 f0 f1 d0 d1 d2 hc0'
                      have hCode : Hid (∀ d, Calls Try.prog 33 #[.pointer (some ⟨r, 0, none⟩)] (w4.drewN d) fun e w' => e = .returned (.int .i64 c) ∧ w' = w4.drewN d) := fun d => oCode _ r (rd4.drewN d)
                      have hLeft : Hid (∀ d, Calls Try.prog 34 #[.pointer (some ⟨r, 0, none⟩)] (w4.drewN d) fun e w' => e = .returned (.int .i64 n) ∧ w' = w4.drewN d) := fun d => by
                        have := oLeft _ r (rd4.drewN d)
                        rw [hs4.len] at this
                        exact this
                      have HI : Hid (∀ d, Inv w (w4.drewN d) r w2.heap.size) := fun d => inv_next rd4 bx4 hs4 hln4 b4
                      have hX4 := bx4.lt
                      obtain ⟨e0, e1, _, _⟩ := id bx4
                      clear rd4 bx4 hs4 hln4 b4
                      go_wp2_with fail
                      go_quiet ((first | (go_at_call 33; exact Calls.quiet_of_same (hCode.out _)) | (go_at_call 34; exact Calls.quiet_of_same (hLeft.out _))))
                      go_wp2_with fail
                      go_roundw
                      case rel => exact ⟨k + 1, by omega, by go_num, HI.out _⟩
                      case measure => simp [intOf]; omega
                  · have hm' : (y.tmod 5 == 0) = false := by simpa using hm
                    clear hm
                    have rdA := hrd.below (below_alloc wr (.cells #[.int .i64 3, .int .i64 y, .int .i64 z] 44)) (Nat.le_refl _)
                    have bxA := hbx.below (below_alloc wr (.cells #[.int .i64 3, .int .i64 y, .int .i64 z] 44)) (Nat.le_refl _)
                    have bA := hb.alloc hb.size (.cells #[.int .i64 3, .int .i64 y, .int .i64 z] 44)
                    have hCode : Hid (∀ d, Calls Try.prog 33 #[.pointer (some ⟨r, 0, none⟩)] ((wr.alloc (.cells #[.int .i64 3, .int .i64 y, .int .i64 z] 44)).drewN d) fun e w' => e = .returned (.int .i64 c) ∧ w' = (wr.alloc (.cells #[.int .i64 3, .int .i64 y, .int .i64 z] 44)).drewN d) := fun d => oCode _ r (rdA.drewN d)
                    have hLeft : Hid (∀ d, Calls Try.prog 34 #[.pointer (some ⟨r, 0, none⟩)] ((wr.alloc (.cells #[.int .i64 3, .int .i64 y, .int .i64 z] 44)).drewN d) fun e w' => e = .returned (.int .i64 n) ∧ w' = (wr.alloc (.cells #[.int .i64 3, .int .i64 y, .int .i64 z] 44)).drewN d) := fun d => by
                      have := oLeft _ r (rdA.drewN d)
                      rw [hbs.len] at this
                      exact this
                    have HI : Hid (∀ d, Inv w ((wr.alloc (.cells #[.int .i64 3, .int .i64 y, .int .i64 z] 44)).drewN d) r w2.heap.size) := fun d => inv_next rdA bxA hbs hln bA
                    clear rdA bxA bA hrd hbx hb
                    go_wp2_with fail
                    go_quiet ((first | (go_at_call 33; exact Calls.quiet_of_same (hCode.out _)) | (go_at_call 34; exact Calls.quiet_of_same (hLeft.out _))))
                    go_wp2_with fail
                    go_roundw
                    case rel => exact ⟨k + 1, by omega, by go_num, HI.out _⟩
                    case measure => simp [intOf]; omega
                · have hx3' : (x == 3) = false := by simp [hx3]
                  have H0 : Hid (x ≠ 0) := hx0
                  clear hx0 hx1 hx2 hx3
                  have rdA := hrd.below (below_alloc wr (.cells #[.int .i64 x, .int .i64 y, .int .i64 z] 44)) (Nat.le_refl _)
                  have bxA := hbx.below (below_alloc wr (.cells #[.int .i64 x, .int .i64 y, .int .i64 z] 44)) (Nat.le_refl _)
                  have bA := hb.alloc hb.size (.cells #[.int .i64 x, .int .i64 y, .int .i64 z] 44)
                  have hCode : Hid (∀ d, Calls Try.prog 33 #[.pointer (some ⟨r, 0, none⟩)] ((wr.alloc (.cells #[.int .i64 x, .int .i64 y, .int .i64 z] 44)).drewN d) fun e w' => e = .returned (.int .i64 c) ∧ w' = (wr.alloc (.cells #[.int .i64 x, .int .i64 y, .int .i64 z] 44)).drewN d) := fun d => oCode _ r (rdA.drewN d)
                  have hLeft : Hid (∀ d, Calls Try.prog 34 #[.pointer (some ⟨r, 0, none⟩)] ((wr.alloc (.cells #[.int .i64 x, .int .i64 y, .int .i64 z] 44)).drewN d) fun e w' => e = .returned (.int .i64 n) ∧ w' = (wr.alloc (.cells #[.int .i64 x, .int .i64 y, .int .i64 z] 44)).drewN d) := fun d => by
                    have := oLeft _ r (rdA.drewN d)
                    rw [hbs.len] at this
                    exact this
                  have HI : Hid (∀ d, Inv w ((wr.alloc (.cells #[.int .i64 x, .int .i64 y, .int .i64 z] 44)).drewN d) r w2.heap.size) := fun d => inv_next rdA bxA hbs hln bA
                  clear rdA bxA bA hrd hbx hb
                  go_wp2_with fail
                  go_quiet ((first | (go_at_call 33; exact Calls.quiet_of_same (hCode.out _)) | (go_at_call 34; exact Calls.quiet_of_same (hLeft.out _))))
                  go_wp2_with fail
                  go_roundw
                  case rel => exact ⟨k + 1, by omega, by go_num, HI.out _⟩
                  case measure => simp [intOf]; omega
        · have hE := fun W (h : Below wr.heap.size wr W) => oEnd W r (hrd.below h (Nat.le_refl _))
          have hE2 := fun W => rEnd W a n q c
          have hb0 := hb
          rw [hbs.len] at hE
          generalize (if c = 0 ∧ 0 < n then (4 : Int) else c) = v at *
          have HE : Hid (∀ W, Below wr.heap.size wr W → Calls Try.prog 35 #[.pointer (some ⟨r, 0, none⟩)] W fun e w' => e = .returned (.int .i64 v) ∧ w' = W) := hE
          have HE2 : Hid (∀ W, Calls Try.prog 36 #[.agg #[.slice a n q, .int .i64 c]] W fun e w' => e = .returned (.int .i64 v) ∧ Below W.heap.size W w') := hE2
          have p0 : Below wr.heap.size wr wr.drew := (Below.refl _ _).drew
          have hX := hbx.lt
          obtain ⟨e0, e1, f0, f1⟩ := id hbx
          clear hE hE2 hrd hbx hbs
          go_wp2_with fail
          go_region_with (first | (go_at_call 35; refine (HE.out _ (by assumption)).mono ?_; rintro e w5 ⟨rfl, rfl⟩) | (go_at_call 36; refine (HE2.out _).mono ?_; rintro e w3 ⟨rfl, hb3⟩; have b3 : Below wr.heap.size wr w3 := p0.trans hb3) | (go_at_call 8; refine (lWorks _).mono ?_; rintro e w4 ⟨rfl, hb4⟩))
          all_goals go_wp2_with fail
          all_goals go_ret
          all_goals exact ⟨rfl, (hb0.trans (b3.mono hb0.size)).trans (hb4.mono (Nat.le_trans hb0.size b3.size))⟩

set_option maxRecDepth 100000 in
theorem lifted (os : Os) (started : os.Started) (H : Type) (enc : TypeId × Value → H) :
    ReturnsInHanded {} Try.checked os 7 .any (Rows.octetReadsSpec.pre6 enc Try.prog Try.f7 Rows.octetReadsRow.domain false) (Rows.octetReadsSpec.post enc Try.prog Try.f7 false true false false) := by
  refine returnsInHanded_of_change (C := Try.checked) own started (by kernel_rfl) Try.func7
    (ChangeSpec.witness6 (enc := enc) (C := Try.checked) false ⟨#[], #[.slice none 0 0, .slice none 0 0], []⟩ 8 (by kernel_rfl) (by kernel_rfl) (by kernel_rfl) (by kernel_rfl)) ?_
  intro W base args ds gs before hval0 hW hcnd _
  have hval : ∀ (j : Nat) t v, Try.f7.params[j]? = some t → args[j]? = some v → Value.okWide Try.prog W .any base t v := hval0
  have hW' := hW
  obtain ⟨p, q, hA0, hV, rfl, hfz, hnd⟩ := hW
  have hA : DataW.TrodAll enc Try.prog W 0 (fun _ => true) true Try.f7.params.toList args.toList ds p := hA0
  rw [Try.params7] at hA hval
  obtain ⟨v0, vs0, d0, ds0, p0, q0, hargs, rfl, rfl, h0, r0⟩ := trodAll_cons hA
  obtain ⟨v1, vs1, d1, ds1, p1, q1, rfl, rfl, rfl, h1, r1⟩ := trodAll_cons r0
  obtain ⟨rfl, rfl, rfl⟩ := trodAll_nil r1
  obtain rfl : args = #[v0, v1] := by cases args; simp_all
  obtain ⟨rfl, rfl⟩ := trodVars_none hV
  obtain ⟨a0, len0, cap0, rfl⟩ := okWide_slice Try.underlying23 (hval 0 23 v0 rfl rfl)
  have k0 := h0
  have lt0 : ∀ x ∈ p0, x.block < W.heap.size := by obtain ⟨m, hm⟩ := k0; exact DataW.trod_lt m _ _ _ hm
  obtain ⟨l0, w0⟩ : ∃ l, Bs W a0 len0 cap0 l := by
    obtain ⟨fuel, hf⟩ := h0
    exact Bs.of_trod hf
  obtain ⟨a1, len1, cap1, rfl⟩ := okWide_slice Try.underlying37 (hval 1 37 v1 rfl rfl)
  have k1 := h1
  have lt1 : ∀ x ∈ p1, x.block < W.heap.size := by obtain ⟨m, hm⟩ := k1; exact DataW.trod_lt m _ _ _ hm
  obtain ⟨l1, w1⟩ : ∃ l, Asks W a1 len1 cap1 l := by
    obtain ⟨fuel, hf⟩ := h1
    exact Asks.of_trod hf
  clear hA0 hval0
  refine (walk a0 len0 cap0 l0 a1 len1 cap1 l1 W w0 w1).mono fun e W' ⟨he, bel⟩ => ?_
  subst he
  exact ⟨_, rfl, _, _, _, [], _, [], hW', trodAll_mk1 (shut_bool Try.underlying4 _), (trodAll_cons_mk (Below.trod laidOut (by kernel_rfl) (of_decide_eq_true (by kernel_rfl)) k0 bel lt0) (trodAll_cons_mk (Below.trod laidOut (by kernel_rfl) (of_decide_eq_true (by kernel_rfl)) k1 bel lt1) trodAll_mk0)), rfl, bel.frame _, fun h => by cases h⟩

theorem over : Rows.octetReadsRow.holds Try.pinned (OpenSpec.ofChange Rows.octetReadsSpec) :=
  OpenClaim.holds_of_wide 7 Try.f7 rfl rfl rfl rfl rfl rfl rfl ⟨rfl, rfl, rfl, rfl, rfl⟩ rfl rfl rfl rfl rfl (by kernel_rfl) Try.func7 (by kernel_rfl)
    (of_decide_eq_true (by kernel_rfl)) (by unfold Func.isWrapper; first | (rw [if_pos (by decide +kernel)]; kernel_rfl) | (rw [if_neg (by decide +kernel)]; exact ⟨rfl, rfl⟩))
    (fun os started H enc _ => lifted os started H enc)
end OctetReadsLaw

/-- The statement. -/
theorem octetReads_holds : Rows.OctetReadsSaid := OctetReadsLaw.over
#print axioms octetReads_holds
end Go.Proofs.Ytabokdffhomhiaa
