/-
  Contracts of layer 11's program's Apart and of the function within it that knows the tape. Conditions: at most 1000 keys.
-/
import Derived.Test.YtphkkbkfioaikaaTapOrd
import Derived.Test.YtphkkbkfioaikaaTapPA
namespace Go.Proofs.Ytphkkbkfioaikaa
open Go.RowKit Go.Shelf Go.Sort

set_option maxHeartbeats 1000000 in
theorem oClos (W : World) {b t kb : Nat} {T : TapS} (hb : W.cell? ⟨b, 0, none⟩ = some (.pointer (some ⟨t, 0, none⟩))) (h : Tp W t kb T) {i j : Nat} (hi : i < T.l.length) (hj : j < T.l.length) :
    Calls Try.prog 19 #[.int .i64 (i : Int), .int .i64 (j : Int), .pointer (some ⟨b, 0, none⟩)] W fun e w' => e = .returned (.int .i64 (Lib.compareBytes (T.l.getD i []) (T.l.getD j []))) ∧ ∃ q, w' = W.drewN q := by
  have hC : ∀ d, Calls Try.prog 20 #[.slice (some ⟨kb, i * 32, none⟩) 32 32, .slice (some ⟨kb, j * 32, none⟩) 32 32] (W.drewN d) fun e w' => e = .returned (.int .i64 (Lib.compareBytes (T.l.getD i []) (T.l.getD j []))) ∧ w' = W.drewN d := fun d => oCompare (W.drewN d) (h.key hi) (h.key hj)
  have HC : Hid (∀ d, Calls Try.prog 20 #[.slice (some ⟨kb, i * 32, none⟩) 32 32, .slice (some ⟨kb, j * 32, none⟩) 32 32] (W.drewN d) fun e w' => e = .returned (.int .i64 (Lib.compareBytes (T.l.getD i []) (T.l.getD j []))) ∧ w' = W.drewN d) := hC
  clear hC
  have hl := h.b.lt
  have hlb := lt_of_cell hb
  have c0 : W.cell? ⟨t, 0, none⟩ = some (.slice (some ⟨kb, 0, none⟩) T.l.length T.l.length) := h.b.cell 0
  have hn := h.n
  have hall := allKey
  generalize Lib.compareBytes (T.l.getD i []) (T.l.getD j []) = r at *
  generalize T.l.length = N at *
  have i1 : (i : Int) < (N : Int) := by omega
  have j1 : (j : Int) < (N : Int) := by omega
  clear h hi hj
  go_enter Try.func19, Try.ntmps19
  go_wp2_with fail
  go_quiet ((go_at_call 20; exact Calls.quiet_of_same (HC.out _)))
  go_wp2_with fail
  go_ret
  exact ⟨rfl, _, rfl⟩

/-- Places while they are laid. -/
def plC (k N : Nat) : List Value := (List.range k).map (fun i => .int .i64 ((i : Nat) : Int)) ++ List.replicate (N - k) (.int .i64 0)
theorem plC_len {k N : Nat} (h : k ≤ N) : (plC k N).length = N := by
  unfold plC
  rw [List.length_append, List.length_map, List.length_range, List.length_replicate]
  omega
theorem plC_step {k N : Nat} (h : k < N) : (plC k N).set k (.int .i64 (k : Int)) = plC (k + 1) N := by
  unfold plC
  rw [List.set_append_right _ _ (by simp), List.length_map, List.length_range, Nat.sub_self, show N - k = (N - (k + 1)) + 1 from by omega, List.replicate_succ, List.set_cons_zero, List.range_succ, List.map_append, List.append_assoc]
  rfl
theorem plC_none (N : Nat) : plC 0 N = List.replicate (N * 1) (.int .i64 0) := by
  unfold plC
  simp
theorem plC_at {N j : Nat} (h : j < N) : (plC N N)[j]? = some (.int .i64 (j : Int)) := by
  unfold plC
  rw [List.getElem?_append_left (by simpa using h), List.getElem?_map, List.getElem?_range h]
  rfl
theorem info3 : (Try.prog.info? 3).map (fun i => (i.zero, i.size, i.bytes)) = some (some (.int .i64 0), 1, 8) := by kernel_rfl
theorem cells3 : (Value.int .i64 0).cells = Array.replicate 1 (.int .i64 0) := rfl

/-- The sort of all places. -/
theorem oSortP (w : World) {b t kb g N : Nat} {T : TapS} (hN : T.l.length = N) (hpos : 0 < N) (hb : w.cell? ⟨b, 0, none⟩ = some (.pointer (some ⟨t, 0, none⟩))) (h : Tp w t kb T) (hg : Blk w g (plC N N) 3) (hgb : ¬ b = g) (hgt : ¬ t = g) (hgk : ¬ kb = g) :
    Calls Try.prog 21 #[.slice (some ⟨g, 0, none⟩) N N, .func (.func 19) #[] #[.pointer (some ⟨b, 0, none⟩)]] w fun e w' => e = .returned (.tuple #[]) ∧ w.grownBy w' (some g) ∧ ∃ d : Nat → Nat, (∀ i, i < N → d i < N ∧ w'.cell? ⟨g, i, none⟩ = some (.int .i64 (d i : Int))) ∧
      (∀ i, i + 1 < N → Lib.compareBytes (T.l.getD (d i) []) (T.l.getD (d (i + 1)) []) = 0 → T.apart = false) ∧ ((∀ i, i + 1 < N → Lib.compareBytes (T.l.getD (d i) []) (T.l.getD (d (i + 1)) []) ≠ 0) → T.apart = true) := by
  haveI : Inhabited (Fin N) := ⟨⟨0, hpos⟩⟩
  have eg : ∀ args w, (callFunc 19 args).run Try.prog w = .ok (.enter 19 args) w := enters_of Try.func19 (by kernel_rfl) rfl
  have hs := allP_size N
  have hH : Holds encP w g 0 (allP N) := fun j hj => by
    rw [hs] at hj
    rw [Nat.zero_add, hg.cell, plC_at hj, allP_at hj]
    exact ⟨rfl, hg.free j⟩
  have hcmp : CmpReads Try.prog 19 #[.pointer (some ⟨b, 0, none⟩)] (encP (N := N)) (cfP T.l) g 0 (allP N).size w := fun m os dk hdk x y => by
    have hgr := sort_grown (encP (N := N)) w g 0 m dk os
    have k := Kp.of_grown hgr
    have hb' : (sortWorld (encP (N := N)) w g 0 m dk os).cell? ⟨b, 0, none⟩ = some (.pointer (some ⟨t, 0, none⟩)) := by
      rw [World.cell?_of_block (w := w) (k.block b (lt_of_cell hb) hgb)]
      exact hb
    exact oClos _ hb' (h.keep k hgt hgk) (by rw [hN]; exact x.isLt) (by rw [hN]; exact y.isLt)
  have hcon := Any.slices_SortFunc sortL (encP (N := N)) (fun _ => rfl) (cfP T.l) (swoP T.l) 19 #[.pointer (some ⟨b, 0, none⟩)] g 0 N (allP N) w eg hcmp.lays hH hg.lt (by rw [hs, ← hN]; have := h.n; omega)
  rw [hs] at hcon
  refine Calls.mono hcon ?_
  rintro e w' ⟨rfl, d, n, os, hp, hso, rfl⟩
  obtain ⟨h1, h2, h3⟩ := apart_sorted T.l hN d hp hso
  refine ⟨rfl, sort_grown _ _ _ _ _ _ _, fun i => (d[i]!).val, fun i hi => ⟨(d[i]!).isLt, ?_⟩, fun i hi hc => ?_, fun hall => ?_⟩
  · have hsw : SW (encP (N := N)) w g 0 d (sortWorld (encP (N := N)) w g 0 n d os) := ⟨n, os, rfl⟩
    have := (hsw.holds hg.lt hH (by rw [h1, hs]) i (by rw [h1]; exact hi)).1
    rwa [Nat.zero_add] at this
  · unfold TapS.apart
    rw [decide_eq_false_iff_not]
    exact fun hn => h2 i hi hc hn
  · unfold TapS.apart
    rw [decide_eq_true_iff]
    exact h3 fun i hi hc => hall i hi hc

set_option maxHeartbeats 1000000 in
set_option maxRecDepth 100000 in
theorem oTApart (w : World) {t kb : Nat} {T : TapS} (h : Tp w t kb T) :
    Calls Try.prog 10 #[.pointer (some ⟨t, 0, none⟩)] w fun e w' => e = .returned (.bool T.apart) ∧ Below w.heap.size w w' := by
  have HT : Hid (Tp w t kb T) := h
  have hl := h.b.lt
  have hk := h.k.lt
  have hn := h.n
  have c0 : w.cell? ⟨t, 0, none⟩ = some (.slice (some ⟨kb, 0, none⟩) T.l.length T.l.length) := h.b.cell 0
  obtain ⟨N, hN⟩ : ∃ N, N = T.l.length := ⟨_, rfl⟩
  rw [← hN] at c0 hn
  have HN : Hid (N = T.l.length) := hN
  clear h hN
  have i3 := info3
  go_enter Try.func10, Try.ntmps10
  go_wp2_with (at_make; refine wpList_mkB _ 51 3 _ (.int .i64 0) 1 8 Try.underlying51 i3 cells3 (by omega) (by omega) rfl _ _ rfl N rfl rfl (by omega) ?_; intro w1 hB1 hb1)
  obtain ⟨b, hbb⟩ : ∃ b, b = w.heap.size := ⟨_, rfl⟩
  obtain ⟨g, hgg⟩ : ∃ g, g = w.heap.size + 1 := ⟨_, rfl⟩
  simp only [World.size_alloc] at hB1 hb1 ⊢
  have hX0 : Blk w1 b [.pointer (some ⟨t, 0, none⟩)] 25 := by
    rw [hbb]
    exact (Blk.new w #[.pointer (some ⟨t, 0, none⟩)] 25).below hb1 (by omega)
  have hT0 : Tp w1 t kb T := (HT.out.grow (below_alloc _ _)).grow (by rw [World.size_alloc]; exact hb1)
  have hP0 : Blk w1 g (plC 0 N) 3 := by
    rw [plC_none, hgg]
    exact hB1
  have hb0 : Below w.heap.size w w1 := (below_alloc w _).trans (hb1.mono (by omega))
  rw [← hgg]
  have HD : Hid (b < g ∧ t < b ∧ kb < b ∧ w.heap.size ≤ b) := by refine ⟨?_, ?_, ?_, ?_⟩ <;> omega
  rw [← hbb]
  clear hB1 hb1 hbb hgg c0 HT i3
  go_loopw [16] (fun i wr => ∃ k : Nat, k ≤ N ∧ i = .int .i64 (k : Int) ∧ Blk wr b [.pointer (some ⟨t, 0, none⟩)] 25 ∧ Hid (Tp wr t kb T) ∧ Blk wr g (plC k N) 3 ∧ RowKit.Below w.heap.size w wr) (fun i _ => N - (intOf i).toNat)
  case atStart => exact ⟨0, Nat.zero_le _, rfl, hX0, hT0, hP0, hb0⟩
  case round =>
    obtain ⟨k, hkN, rfl, hX, hT, hP, hb⟩ := hrel
    clear hX0 hT0 hP0 hb0
    by_cases hlt : k < N
    · have hgl := hP.lt
      obtain ⟨v0, hcell⟩ : ∃ v, wr.cell? ⟨g, k, none⟩ = some v := by
        rw [hP.cell, List.getElem?_eq_getElem (by rw [plC_len hkN]; exact hlt)]
        exact ⟨_, rfl⟩
      have hfr := hP.free k
      have hP2 := hP.setC k (.int .i64 (k : Int))
      rw [plC_step hlt] at hP2
      have hX2 : Blk (wr.setCell ⟨g, k, none⟩ (.int .i64 (k : Int))) b [.pointer (some ⟨t, 0, none⟩)] 25 := hX.setO (by have := HD.out; show ¬ b = g; omega) _
      have hT2 : Hid (Tp (wr.setCell ⟨g, k, none⟩ (.int .i64 (k : Int))) t kb T) := hT.out.keep (Kp.of_grown (but_set wr g k _)) (by have := HD.out; show ¬ t = g; omega) (by have := HD.out; show ¬ kb = g; omega)
      have hb2 : RowKit.Below w.heap.size w (wr.setCell ⟨g, k, none⟩ (.int .i64 (k : Int))) := hb.setCell (p := ⟨g, k, none⟩) (by have := HD.out; show w.heap.size ≤ g; omega) _
      have i1 : (k : Int) < (N : Int) := by omega
      clear hX hT hb
      have HX2 : Hid (Blk (wr.setCell ⟨g, k, none⟩ (.int .i64 (k : Int))) b [.pointer (some ⟨t, 0, none⟩)] 25) := hX2
      have HP2 : Hid (Blk (wr.setCell ⟨g, k, none⟩ (.int .i64 (k : Int))) g (plC (k + 1) N) 3) := hP2
      have HB2 : Hid (RowKit.Below w.heap.size w (wr.setCell ⟨g, k, none⟩ (.int .i64 (k : Int)))) := hb2
      clear hX2 hP2 hb2 hP
      go_wp2_with fail
      go_roundw
      case rel => exact ⟨k + 1, by omega, by go_num, HX2.out, hT2, HP2.out, HB2.out⟩
      case measure => simp [intOf]; omega
    · have hkN' : k = N := by omega
      subst hkN'
      have hgl := hP.lt
      have i1 : ¬ (k : Int) < (k : Int) := by omega
      have cX : wr.cell? ⟨b, 0, none⟩ = some (.pointer (some ⟨t, 0, none⟩)) := hX.cell 0
      by_cases hpos : 0 < k
      · have CS := oSortP wr HN.out.symm hpos cX hT.out hP (by have := HD.out; omega) (by have := HD.out; omega) (by have := HD.out; omega)
        go_wp2_with fail
        refine CS.mono ?_
        rintro e w5 ⟨rfl, hg5, d, hd, hno, hyes⟩
        have k5 := Kp.of_grown hg5
        have hX5 := k5.blk hX (by have := HD.out; omega)
        have hT5 := hT.out.keep k5 (by have := HD.out; omega) (by have := HD.out; omega)
        have HB5 : Hid (RowKit.Below w.heap.size w w5) := below_of_but hb hg5 (by have := HD.out; omega) hb.size
        have cX5 : w5.cell? ⟨b, 0, none⟩ = some (.pointer (some ⟨t, 0, none⟩)) := hX5.cell 0
        have HC : Hid (∀ i j q, i < k → j < k → Calls Try.prog 19 #[.int .i64 (i : Int), .int .i64 (j : Int), .pointer (some ⟨b, 0, none⟩)] (w5.drewN q) fun e w' => e = .returned (.int .i64 (Lib.compareBytes (T.l.getD i []) (T.l.getD j []))) ∧ ∃ q', w' = (w5.drewN q).drewN q') := fun i j q hi hj => oClos (w5.drewN q) (T := T) (kb := kb) cX5 (hT5.grow (below_drewN' w5 q)) (by rw [← HN.out]; exact hi) (by rw [← HN.out]; exact hj)
        have Hd : Hid (∀ i, i < k → d i < k ∧ w5.cell? ⟨g, i, none⟩ = some (.int .i64 (d i : Int))) := hd
        have Hno : Hid (∀ i, i + 1 < k → Lib.compareBytes (T.l.getD (d i) []) (T.l.getD (d (i + 1)) []) = 0 → T.apart = false) := hno
        have Hyes : Hid ((∀ i, i + 1 < k → Lib.compareBytes (T.l.getD (d i) []) (T.l.getD (d (i + 1)) []) ≠ 0) → T.apart = true) := hyes
        have hgl5 : g < w5.heap.size := Nat.lt_of_lt_of_le hgl hg5.size
        have hbl5 := hX5.lt
        clear hd hno hyes CS hX hT hP hb hg5 k5 hX5 hT5 hgl cX
        go_wp2_with fail
        go_loopw [6] (fun i wx => ∃ j q : Nat, (j = 0 ∨ j + 1 ≤ k) ∧ i = .int .i64 ((j : Int) + 1) ∧ wx = w5.drewN q ∧ Hid (∀ i, i < j → Lib.compareBytes (T.l.getD (d i) []) (T.l.getD (d (i + 1)) []) ≠ 0)) (fun i _ => k - (intOf i).toNat)
        case atStart => exact ⟨0, 0, Or.inl rfl, rfl, rfl, fun i hi => by omega⟩
        case round =>
          obtain ⟨j, q, hj, rfl, rfl, hne⟩ := hrel
          by_cases hjk : j + 1 < k
          · have i2 : (j : Int) + 1 < (k : Int) := by omega
            obtain ⟨l0, e0⟩ := Hd.out j (by omega)
            obtain ⟨l1, e1⟩ := Hd.out (j + 1) hjk
            have CC := HC.out (d j) (d (j + 1))
            have HR : Hid (∀ r, r = Lib.compareBytes (T.l.getD (d j) []) (T.l.getD (d (j + 1)) []) → (r = 0 → T.apart = false) ∧ (r ≠ 0 → ∀ i, i < j + 1 → Lib.compareBytes (T.l.getD (d i) []) (T.l.getD (d (i + 1)) []) ≠ 0)) := by
              intro r hr
              refine ⟨fun h0 => Hno.out j hjk (by rw [← hr]; exact h0), fun h0 i hi => ?_⟩
              by_cases he : i = j
              · subst he; rw [← hr]; exact h0
              · exact hne.out i (by omega)
            obtain ⟨r, hr⟩ : ∃ r, r = Lib.compareBytes (T.l.getD (d j) []) (T.l.getD (d (j + 1)) []) := ⟨_, rfl⟩
            have HR' := HR.out r hr
            rw [← hr] at CC
            clear HR hr hne
            obtain ⟨x, hx⟩ : ∃ x, x = d j := ⟨_, rfl⟩
            obtain ⟨y, hy⟩ : ∃ y, y = d (j + 1) := ⟨_, rfl⟩
            rw [← hx, ← hy] at CC
            rw [← hx] at e0
            rw [← hy] at e1
            have HCC : Hid (∀ q, Calls Try.prog 19 #[.int .i64 (x : Int), .int .i64 (y : Int), .pointer (some ⟨b, 0, none⟩)] (w5.drewN q) fun e w' => e = .returned (.int .i64 r) ∧ ∃ q', w' = (w5.drewN q).drewN q') := fun q => CC q (by omega) (by omega)
            clear CC hx hy l0 l1
            have HRR : Hid ((r = 0 → T.apart = false) ∧ (r ≠ 0 → ∀ i, i < j + 1 → Lib.compareBytes (T.l.getD (d i) []) (T.l.getD (d (i + 1)) []) ≠ 0)) := HR'
            clear HR'
            have HQ : Hid (∀ q', Calls Try.prog 19 #[.int .i64 (x : Int), .int .i64 (y : Int), .pointer (some ⟨b, 0, none⟩)] ((w5.drewN q).drewN q') fun e w' => e = .returned (.int .i64 r) ∧ ∃ q'', w' = ((w5.drewN q).drewN q').drewN q'') := fun q' => by
              rw [World.drewN_drewN]
              exact HCC.out _
            have E0 : (w5.drewN q).cell? ⟨g, j, none⟩ = some (.int .i64 (x : Int)) := e0
            have E1 : (w5.drewN q).cell? ⟨g, j + 1, none⟩ = some (.int .i64 (y : Int)) := e1
            have hgx : g < (w5.drewN q).heap.size := hgl5
            have HW : Hid (∀ q', ∃ q'', (w5.drewN q).drewN q' = w5.drewN q'') := fun q' => ⟨_, World.drewN_drewN _ _ _⟩
            have HBx : Hid (RowKit.Below w.heap.size w (w5.drewN q)) := below_drN HB5.out _
            generalize w5.drewN q = wx at *
            clear HCC e0 e1
            by_cases hr0 : r = 0
            · subst hr0
              have HA : Hid (T.apart = false) := HRR.out.1 rfl
              go_wp2_with fail
              go_quiet ((go_at_call 19; exact Calls.quiet_of (HQ.out _)))
              go_wp2_with fail
              go_ret
              exact ⟨by rw [HA.out]; rfl, below_drN HBx.out _⟩
            · have hq0 : (r == 0) = false := by simp [hr0]
              have HA : Hid (∀ i, i < j + 1 → Lib.compareBytes (T.l.getD (d i) []) (T.l.getD (d (i + 1)) []) ≠ 0) := HRR.out.2 hr0
              clear hr0
              go_wp2_with fail
              go_quiet ((go_at_call 19; exact Calls.quiet_of (HQ.out _)))
              go_wp2_with fail
              go_roundw
              case rel =>
                obtain ⟨q'', hq''⟩ := HW.out _
                exact ⟨j + 1, q'', Or.inr (by omega), by go_num, hq'', HA⟩
              case measure => simp [intOf]; omega
          · have i2 : ¬ (j : Int) + 1 < (k : Int) := by omega
            have HA : Hid (T.apart = true) := Hyes.out fun i hi => hne.out i (by omega)
            go_wp2_with fail
            go_ret
            exact ⟨by rw [HA.out]; rfl, below_drN HB5.out _⟩
      · obtain rfl : k = 0 := by omega
        have CS := oSort0 wr (some ⟨g, 0, none⟩) 0 (.func (.func 19) #[] #[.pointer (some ⟨b, 0, none⟩)])
        have HA : Hid (T.apart = true) := by
          show _ = _
          unfold TapS.apart
          rw [List.length_eq_zero_iff.1 HN.out.symm]
          decide
        clear hP hT hX
        go_wp2_with fail
        refine CS.mono ?_
        rintro e w' ⟨rfl, rfl⟩
        go_wp2_with fail
        refine wp_loop_rounds 1 ?_; rw [rounds_succ]; go_wp2_with fail
        go_ret
        exact ⟨by rw [HA.out]; rfl, hb⟩

end Go.Proofs.Ytphkkbkfioaikaa
