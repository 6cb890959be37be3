/-
  The contract of the reference's Words: the words of all rounds' keys. Condition: a key of 32 bytes; the box of all bytes lies where the slice leads.
-/
import Derived.Test.YtofhnigdfmekdaaAesRefC
import Derived.Test.YtofhnigdfmekdaaAesSched
import Derived.Test.YtofhnigdfmekdaaOwnV
namespace Go.Proofs.Ytofhnigdfmekdaa
open Go.RowKit

/-- A slice that lies in old memory, or in a block of bytes. -/
def Bytes5 (w : World) (base : Nat) (p : Option Addr) : Prop := ∀ x, p = some x → x.block < w.heap.size ∧ (x.block < base ∨ ∃ cur f, w.heap[x.block]? = some (.cells cur 5 f))
/-- The slices vs hold the words of F, each in old memory, or in a block of bytes. -/
def WordsIn (w : World) (base : Nat) (F : List UInt8) (vs : List Value) : Prop := ∀ i, i < vs.length → ∃ p q, vs[i]? = some (.slice p 4 q) ∧ Bs w p 4 q (wd F i) ∧ Bytes5 w base p

theorem Bytes5.below {w w' : World} {base : Nat} {p : Option Addr} (h : Bytes5 w base p) (hb : Below w.heap.size w w') : Bytes5 w' base p := fun x hx => by
  obtain ⟨h1, h2⟩ := h x hx
  refine ⟨Nat.lt_of_lt_of_le h1 hb.size, ?_⟩
  rcases h2 with h2 | ⟨cur, f, h2⟩
  · exact Or.inl h2
  · exact Or.inr ⟨cur, f, by rw [hb.block _ h1]; exact h2⟩
theorem WordsIn.below {w w' : World} {base : Nat} {F : List UInt8} {vs : List Value} (h : WordsIn w base F vs) (hb : Below w.heap.size w w') : WordsIn w' base F vs := fun i hi => by
  obtain ⟨p, q, e, hB, h5⟩ := h i hi
  exact ⟨p, q, e, hB.below hb (Nat.le_refl _), h5.below hb⟩
theorem OwnV.not5 {w : World} {base : Nat} {v : Value} {vs : List Value} (h : OwnV w base v vs) {p : Option Addr} (h5 : Bytes5 w base p) (x : Addr) (hx : p = some x) : v.ownBlock ≠ some x.block := fun e => by
  obtain ⟨h1, h2⟩ := h5 x hx
  rcases h2 with h2 | ⟨cur, f, h2⟩
  · have := h.size _ e
    omega
  · rcases h.2 with ⟨rfl, _⟩ | ⟨g, cap, cur', rfl, _, hg, _⟩
    · simp [Value.ownBlock] at e
    · simp only [Value.ownBlock, Option.some.injEq] at e
      rw [e, h2] at hg
      simp only [Option.some.injEq, Obj.cells.injEq] at hg
      exact absurd hg.2.1 (by decide)
theorem Bs.grownV {w w' : World} {r : Option Nat} {a : Option Addr} {n c : Nat} {l : List UInt8} (h : Bs w a n c l) (hg : w.grownBy w' r) (hr : ∀ x, a = some x → r ≠ some x.block) : Bs w' a n c l := by
  refine ⟨h.1, h.2.1, h.2.2.1, h.2.2.2.1, fun i hi => ?_⟩
  obtain ⟨b, o, ha, hc⟩ := h.2.2.2.2 i hi
  exact ⟨b, o, ha, hg.cell hc (fun e => hr _ ha e.symm)⟩
theorem Bytes5.grown {w w' : World} {base : Nat} {r : Option Nat} {p : Option Addr} (h : Bytes5 w base p) (hg : w.grownBy w' r) (hr : ∀ x, p = some x → r ≠ some x.block) : Bytes5 w' base p := fun x hx => by
  obtain ⟨h1, h2⟩ := h x hx
  refine ⟨Nat.lt_of_lt_of_le h1 hg.size, ?_⟩
  rcases h2 with h2 | ⟨cur, f, h2⟩
  · exact Or.inl h2
  · exact Or.inr ⟨cur, f, by rw [hg.block _ h1 (fun e => hr x hx e.symm)]; exact h2⟩
/-- One more word. -/
theorem WordsIn.snoc {w w' : World} {base : Nat} {F : List UInt8} {v : Value} {vs : List Value} {p : Option Addr} {q : Nat} (h : WordsIn w base F vs) (ho : OwnV w base v vs) (hg : w.grownBy w' v.ownBlock) (hB : Bs w p 4 q (wd F vs.length)) (h5 : Bytes5 w base p) : WordsIn w' base F (vs ++ [.slice p 4 q]) := fun i hi => by
  by_cases hlt : i < vs.length
  · obtain ⟨p', q', e, hB', h5'⟩ := h i hlt
    refine ⟨p', q', by rw [List.getElem?_append_left hlt]; exact e, hB'.grownV hg (ho.not5 h5'), h5'.grown hg (ho.not5 h5')⟩
  · have e : i = vs.length := by simp at hi; omega
    subst e
    exact ⟨p, q, by simp, hB.grownV hg (ho.not5 h5), h5.grown hg (ho.not5 h5)⟩
theorem Own.bytes5 {w : World} {b base : Nat} {p : Option Addr} {m q : Nat} {l : List UInt8} (h : Own w b (.slice p m q) l) : Bytes5 w base p := fun x hx => by
  subst hx
  refine ⟨(World.ownsRow.lt h _ rfl).2, ?_⟩
  rcases h.2 with ⟨e, _⟩ | ⟨g, cap, cur, e, _, hg, _⟩
  · simp at e
  · simp only [Value.slice.injEq, Option.some.injEq] at e
    obtain ⟨rfl, _, _⟩ := e
    exact Or.inr ⟨cur, (0, 0), hg⟩
/-- Slices of slices that are owned begin somewhere. -/
theorem OwnV.at {w : World} {base : Nat} {v : Value} {vs : List Value} (h : OwnV w base v vs) (hn : 0 < vs.length) : ∃ g cap, v = .slice (some ⟨g, 0, none⟩) vs.length cap ∧ ∀ i, i < vs.length → w.cell? ⟨g, i, none⟩ = vs[i]? := by
  have h' := h
  rcases h.2 with ⟨_, h0⟩ | ⟨g, cap, cur, rfl, _, _, _⟩
  · omega
  · refine ⟨g, cap, rfl, fun i hi => ?_⟩
    have := World.ownsRow.cellAt h' i (by omega)
    simpa using this
theorem WordsIn.bss {w : World} {base : Nat} {F : List UInt8} {v : Value} {vs : List Value} (h : WordsIn w base F vs) (ho : OwnV w base v vs) (hl : vs.length = 60) : ∃ a c, v = .slice a 60 c ∧ Bss w a 60 c (wdsL F) := by
  obtain ⟨a, c, hv, hB⟩ := ho.bss (ls := wdsL F) (by rw [hl]; simp [wdsL]) (fun i hi => by
    obtain ⟨p, q, e, hB, _⟩ := h i hi
    exact ⟨p, 4, q, e, by rw [wdsL_at F (by omega)]; exact hB⟩)
  rw [hl] at hv hB
  exact ⟨a, c, hv, hB⟩

theorem map4 (f : UInt8 → UInt8) {X : List UInt8} (h : X.length = 4) : X.map f = [f (X.getD 0 0), f (X.getD 1 0), f (X.getD 2 0), f (X.getD 3 0)] := by
  obtain ⟨a, b, c, d, rfl⟩ := len4 h
  rfl

set_option maxRecDepth 100000 in
set_option maxHeartbeats 4000000 in
theorem rWords (w : World) {a a' : Option Addr} {c c' : Nat} {key : List UInt8} (hX : Bs w a 256 c boxT) (hk : Bs w a' 32 c' key) :
    Calls Try.prog 17 #[.slice a 256 c, .slice a' 32 c'] w fun e w' => ∃ p q, e = .returned (.slice p 60 q) ∧ Bss w' p 60 q (wdsL (keyF key)) ∧ Below w.heap.size w w' := by
  have hkl := hk.len
  have HF : Hid ((keyF key).length = 240) := keyF_length hkl
  have HLow : Hid (∀ i, i < 8 → wd (keyF key) i = wd key i) := fun i hi => wd_low hkl hi
  have HHigh : Hid (∀ i, i < 60 → 8 ≤ i → wd (keyF key) i = xorL (wd (keyF key) (i - 8)) (tmpW (wd (keyF key) (i - 1)) i)) := fun i hi h8 => wd_high hkl hi h8
  generalize hF : keyF key = F at *
  clear hF
  obtain ⟨bx, ox, rfl, hx, hc⟩ := hX.at (by omega)
  go_enter Try.func17, Try.ntmps17
  go_wp2_with fail
  go_loopw [5, 6] (fun v i wr => ∃ (k : Nat) (vs : List Value), k ≤ 8 ∧ i = .int .i64 k ∧ vs.length = k ∧ OwnV wr w.heap.size v vs ∧ WordsIn wr w.heap.size F vs ∧ Below w.heap.size w wr) (fun _ i _ => 8 - (intOf i).toNat)
  case atStart => exact ⟨0, [], by omega, rfl, rfl, World.ownsRow_nil _ _ _ _, fun i hi => by simp at hi, Below.refl _ _⟩
  case round =>
    obtain ⟨k, vs, hk8, rfl, hvl, ho, hW, hb⟩ := hrel
    by_cases hlt : k < 8
    · have k0 : (0 : Int) ≤ (k : Int) := by omega
      have k8 : (k : Int) < 8 := by omega
      obtain ⟨p, q, hcut, hB⟩ := hk.cut2 (4 * k) (4 * k + 4) (by omega) (by omega)
      rw [show 4 * k + 4 - 4 * k = 4 from by omega] at hcut hB
      rw [show ((4 * k : Nat) : Int) = 4 * (k : Int) from by omega, show ((4 * k + 4 : Nat) : Int) = 4 * (k : Int) + 4 from by omega] at hcut
      have hBw : Bs w p 4 q (wd F k) := by rw [HLow.out k hlt]; exact hB w hk
      have h5 : Bytes5 wr w.heap.size p := fun x hx => by
        obtain ⟨b', o', e, hl', _⟩ := hBw.at (by omega)
        rw [e] at hx
        simp only [Option.some.injEq] at hx
        subst hx
        exact ⟨Nat.lt_of_lt_of_le hl' hb.size, Or.inl hl'⟩
      have HVL : Hid (vs.length = k) := hvl
      have hs := hb.size
      have hq := hb.alloc hs (.cells #[.slice p 4 q] 27)
      clear hB hvl
      go_wp2_with (at_builtin; go_must (refine wpList_vapp (wr.alloc (.cells #[.slice p 4 q] 27)) rfl (.tmp 14) (.tmp 22) rfl w.heap.size _ vs rfl (ho.below (below_alloc _ _) (Nat.le_refl _)) (some ⟨wr.heap.size, 0, none⟩) 1 1 [.slice p 4 q] rfl rfl (one_cell wr _ _) one_one (by have := HVL.out; simp; omega) (by simp; omega) ?_); intro v2 w2 ho2 hg2)
      go_roundw
      case rel =>
        have ho1 := ho.below (below_alloc wr (.cells #[.slice p 4 q] 27)) (Nat.le_refl _)
        refine ⟨k + 1, vs ++ [.slice p 4 q], by omega, by go_num, by have := HVL.out; simp; omega, ho2, ?_, hq.grown hg2 (by simp; omega) (fun j hj => ho1.size j hj)⟩
        refine (hW.below (below_alloc _ _)).snoc ho1 hg2 ?_ (h5.below (below_alloc _ _))
        rw [HVL.out]
        exact hBw.below hq (Nat.le_refl _)
      case measure => simp [intOf]; omega
    · obtain rfl : k = 8 := by omega
      go_wp2_with fail
      go_loopw [5, 7, 8, 9] (fun v r i _ wr => ∃ (k : Nat) (vs : List Value), 8 ≤ k ∧ k ≤ 60 ∧ i = .int .i64 k ∧ r = .int .u8 ((dpow ((k - 1) / 8)).toNat : Int) ∧ vs.length = k ∧ OwnV wr w.heap.size v vs ∧ WordsIn wr w.heap.size F vs ∧ Below w.heap.size w wr) (fun _ _ i _ _ => 60 - (intOf i).toNat)
      case atStart => exact ⟨8, vs, by omega, by omega, rfl, rfl, hvl, ho, hW, hb⟩
      case round =>
        clear ho hW hb hvl hk8 hlt vs
        obtain ⟨k, vs, hk8, hk60, rfl, rfl, hvl, ho, hW, hb⟩ := hrel
        by_cases hlt : k < 60
        · have h0 : (0 : Int) ≤ (k : Int) := by omega
          have h8 : (8 : Int) ≤ (k : Int) := by omega
          have h60 : (k : Int) < 60 := by omega
          obtain ⟨g, cap, hv, hcell⟩ := ho.at (by omega)
          rw [hvl] at hv hcell
          subst hv
          obtain ⟨p1, q1, e1, hB1, _⟩ := hW (k - 1) (by omega)
          obtain ⟨p8, q8, e8, hB8, _⟩ := hW (k - 8) (by omega)
          have c1 := hcell (k - 1) (by omega)
          have c8 := hcell (k - 8) (by omega)
          rw [e1] at c1
          rw [e8] at c8
          clear hcell e1 e8
          have HVL : Hid (vs.length = k) := hvl
          clear hvl
          have HX : Hid ((wd F (k - 1)).length = 4) := hB1.len
          have HHi : Hid (wd F k = xorL (wd F (k - 8)) (tmpW (wd F (k - 1)) k)) := HHigh.out k hlt hk8
          have HX4 : Hid ((xorL (wd F (k - 8)) (tmpW (wd F (k - 1)) k)).length = 4) := by show _ = _; rw [← HHi.out]; exact wd_length (by have := HF.out; omega)
          obtain ⟨m, hm⟩ : ∃ m, m = k % 8 := ⟨_, rfl⟩
          have HM : Hid (m = k % 8) := hm
          have hm0 : (k : Int) % 8 = (m : Int) := by omega
          have hm1 : (k : Int).tmod 8 = (m : Int) := by rw [Int.tmod_eq_emod_of_nonneg (by omega)]; omega
          clear hm
          generalize hX' : wd F (k - 1) = X at *
          clear hX'
          obtain ⟨P, hP⟩ : ∃ P, P = dpow ((k - 1) / 8) := ⟨_, rfl⟩
          rw [← hP]
          have HP : Hid (P = dpow ((k - 1) / 8)) := hP
          clear hP
          by_cases hz : m = 0
          · have HK : Hid (k % 8 = 0) := by show _ = _; rw [← HM.out]; exact hz
            subst hz
            have HPN : Hid (dbl P = dpow (k / 8)) := by show _ = _; rw [HP.out]; exact pow_up hk8 HK.out
            have HE0 : tmpW X k = [box (X.getD 1 0) ^^^ P, box (X.getD 2 0), box (X.getD 3 0), box (X.getD 0 0)] := by unfold tmpW; rw [if_pos HK.out, HP.out]
            obtain ⟨b1, o1, rfl, hb1l, hcx⟩ := hB1.at (by omega)
            have x0c : wr.cell? ⟨b1, o1, none⟩ = some (.int .u8 (bt X 0)) := hcx 0 (by omega)
            have x1c := hcx 1 (by omega)
            have x2c := hcx 2 (by omega)
            have x3c := hcx 3 (by omega)
            have bxc : ∀ z : UInt8, wr.cell? ⟨bx, ox + z.toNat, none⟩ = some (.int .u8 ((box z).toNat : Int)) := fun z => by rw [hb.cell (p := ⟨bx, ox + z.toNat, none⟩) hx, hc z.toNat (b_lt z), box_at]
            unfold bt at x0c x1c x2c x3c
            generalize X.getD 0 0 = x0 at *
            generalize X.getD 1 0 = x1 at *
            generalize X.getD 2 0 = x2 at *
            generalize X.getD 3 0 = x3 at *
            have y0c := bxc x0
            have y1c := bxc x1
            have y2c := bxc x2
            have y3c := bxc x3
            have l0 : (x0.toNat : Int) < 256 := by have := b_lt x0; omega
            have l1 : (x1.toNat : Int) < 256 := by have := b_lt x1; omega
            have l2 : (x2.toNat : Int) < 256 := by have := b_lt x2; omega
            have l3 : (x3.toNat : Int) < 256 := by have := b_lt x3; omega
            generalize box x0 = y0 at *
            generalize box x1 = y1 at *
            generalize box x2 = y2 at *
            generalize box x3 = y3 at *
            clear bxc hcx hB1
            have xo := xor_u8 y1 P
            generalize y1 ^^^ P = y5 at *
            have HE : Hid (tmpW X k = [y5, y2, y3, y0]) := HE0
            have CT : Hid (∀ w, Calls Try.prog 32 #[.int .u8 (P.toNat : Int), .int .u8 2] w fun e w' => e = .returned (.int .u8 ((dbl P).toNat : Int)) ∧ w = w') := fun w => by have := rTimesI w P 2 (by decide); rw [times2] at this; exact this.mono fun _ _ ⟨h1, h2⟩ => ⟨h1, h2.symm⟩
            clear HE0
            go_wp2_with fail
            go_region_held3 (fun w' => w'.cell? ⟨b1, o1, none⟩ = some (.int .u8 (x0.toNat : Int)) ∧ w'.cell? ⟨b1, o1 + 1, none⟩ = some (.int .u8 (x1.toNat : Int)) ∧ w'.cell? ⟨b1, o1 + 2, none⟩ = some (.int .u8 (x2.toNat : Int)) ∧ w'.cell? ⟨b1, o1 + 3, none⟩ = some (.int .u8 (x3.toNat : Int)) ∧ w'.cell? ⟨bx, ox + x0.toNat, none⟩ = some (.int .u8 (y0.toNat : Int)) ∧ w'.cell? ⟨bx, ox + x1.toNat, none⟩ = some (.int .u8 (y1.toNat : Int)) ∧ w'.cell? ⟨bx, ox + x2.toNat, none⟩ = some (.int .u8 (y2.toNat : Int)) ∧ w'.cell? ⟨bx, ox + x3.toNat, none⟩ = some (.int .u8 (y3.toNat : Int))) (first | assumption | (refine ⟨?_, ?_, ?_, ?_, ?_, ?_, ?_, ?_⟩ <;> assumption) | go_keep) (fail)
            obtain ⟨W1, hW1⟩ : ∃ W1, W1 = (wr.alloc (.cells #[.int .u8 (y5.toNat : Int), .int .u8 (y2.toNat : Int), .int .u8 (y3.toNat : Int), .int .u8 (y0.toNat : Int)] 5)).drew := ⟨_, rfl⟩
            rw [← hW1]
            have hbw : Below wr.heap.size wr W1 := by rw [hW1]; exact (below_alloc _ _).drew
            have hB9 : Bs W1 (some ⟨wr.heap.size, 0, none⟩) 4 4 (tmpW X k) := by rw [hW1, HE.out]; exact (Bs.made wr [y5, y2, y3, y0] _ rfl (by simp)).drew
            have hB8t := hB8.below hbw (Nat.le_refl _)
            have hot := ho.below hbw (Nat.le_refl _)
            have hWt := hW.below hbw
            have hbt := hb.trans (hbw.mono hb.size)
            have c8t : W1.cell? ⟨g, k - 8, none⟩ = some (.slice p8 4 q8) := (hbw.cell (p := ⟨g, k - 8, none⟩) (lt_of_cell c8)).trans c8
            clear hW1 ho hW hb hB8 c1 c8 x0c x1c x2c x3c y0c y1c y2c y3c
            go_wp2_with (first
              | (go_at_call 32; go_must (refine (CT.out W1).mono ?_); rintro e wt ⟨rfl, rfl⟩)
              | (go_at_call 28; go_must (refine (rBoth W1 hB8t hB9 (by omega) (by omega)).mono ?_); rintro e wu ⟨au, mu, cu, rfl, hou, hbu⟩; have hBu := hou.toBs; have hmu : mu = 4 := by rw [← hBu.len]; exact HX4.out
                 subst hmu; have hou1 := hot.below hbu (Nat.le_refl _); have hqu := hbt.trans (hbu.mono hbt.size); have hsu := hqu.size)
              | (at_builtin; go_must (refine wpList_vapp (wu.alloc (.cells #[.slice au 4 cu] 27)) rfl (.tmp 93) (.tmp 101) rfl w.heap.size _ vs rfl (hou1.below (below_alloc _ _) (Nat.le_refl _)) (some ⟨wu.heap.size, 0, none⟩) 1 1 [.slice au 4 cu] rfl rfl (one_cell wu _ _) one_one (by have := HVL.out; simp; omega) (by simp; omega) ?_); intro v2 w2 ho2 hg2))
            go_roundw
            case rel =>
              have ho3 := hou1.below (below_alloc wu (.cells #[.slice au 4 cu] 27)) (Nat.le_refl _)
              have hq3 := hqu.alloc hsu (.cells #[.slice au 4 cu] 27)
              (repeat apply Exists.intro)
              refine ⟨?_, rfl⟩
              refine ⟨k + 1, vs ++ [.slice au 4 cu], by omega, by omega, by go_num, by rw [Nat.add_sub_cancel, ← HPN.out], by have := HVL.out; simp; omega, ho2, ?_, hq3.grown hg2 (by simp; omega) (fun j hj => ho3.size j hj)⟩
              refine ((hWt.below hbu).below (below_alloc _ _)).snoc ho3 hg2 ?_ ((hou.bytes5).below (below_alloc _ _))
              rw [HVL.out, HHi.out]
              exact hBu.below (below_alloc _ _) (Nat.le_refl _)
            case measure => simp [intOf]; omega
          · by_cases h4 : m = 4
            · have HK : Hid (k % 8 = 4) := by show _ = _; rw [← HM.out]; exact h4
              subst h4
              have HPN : Hid (P = dpow (k / 8)) := by show _ = _; rw [HP.out]; exact pow_stay (by rw [HK.out]; omega)
              have HE0 : tmpW X k = [box (X.getD 0 0), box (X.getD 1 0), box (X.getD 2 0), box (X.getD 3 0)] := by rw [← tmp_half X HK.out]; exact map4 box HX.out
              obtain ⟨b1, o1, rfl, hb1l, hcx⟩ := hB1.at (by omega)
              have x0c : wr.cell? ⟨b1, o1, none⟩ = some (.int .u8 (bt X 0)) := hcx 0 (by omega)
              have x1c := hcx 1 (by omega)
              have x2c := hcx 2 (by omega)
              have x3c := hcx 3 (by omega)
              have bxc : ∀ z : UInt8, wr.cell? ⟨bx, ox + z.toNat, none⟩ = some (.int .u8 ((box z).toNat : Int)) := fun z => by rw [hb.cell (p := ⟨bx, ox + z.toNat, none⟩) hx, hc z.toNat (b_lt z), box_at]
              unfold bt at x0c x1c x2c x3c
              generalize X.getD 0 0 = x0 at *
              generalize X.getD 1 0 = x1 at *
              generalize X.getD 2 0 = x2 at *
              generalize X.getD 3 0 = x3 at *
              have y0c := bxc x0
              have y1c := bxc x1
              have y2c := bxc x2
              have y3c := bxc x3
              have l0 : (x0.toNat : Int) < 256 := by have := b_lt x0; omega
              have l1 : (x1.toNat : Int) < 256 := by have := b_lt x1; omega
              have l2 : (x2.toNat : Int) < 256 := by have := b_lt x2; omega
              have l3 : (x3.toNat : Int) < 256 := by have := b_lt x3; omega
              generalize box x0 = y0 at *
              generalize box x1 = y1 at *
              generalize box x2 = y2 at *
              generalize box x3 = y3 at *
              clear bxc hcx hB1
              have HE : Hid (tmpW X k = [y0, y1, y2, y3]) := HE0
              clear HE0 hz
              go_wp2_with fail
              go_region_held3 (fun w' => w'.cell? ⟨b1, o1, none⟩ = some (.int .u8 (x0.toNat : Int)) ∧ w'.cell? ⟨b1, o1 + 1, none⟩ = some (.int .u8 (x1.toNat : Int)) ∧ w'.cell? ⟨b1, o1 + 2, none⟩ = some (.int .u8 (x2.toNat : Int)) ∧ w'.cell? ⟨b1, o1 + 3, none⟩ = some (.int .u8 (x3.toNat : Int)) ∧ w'.cell? ⟨bx, ox + x0.toNat, none⟩ = some (.int .u8 (y0.toNat : Int)) ∧ w'.cell? ⟨bx, ox + x1.toNat, none⟩ = some (.int .u8 (y1.toNat : Int)) ∧ w'.cell? ⟨bx, ox + x2.toNat, none⟩ = some (.int .u8 (y2.toNat : Int)) ∧ w'.cell? ⟨bx, ox + x3.toNat, none⟩ = some (.int .u8 (y3.toNat : Int))) (first | assumption | (refine ⟨?_, ?_, ?_, ?_, ?_, ?_, ?_, ?_⟩ <;> assumption) | go_keep) (fail)
              obtain ⟨W1, hW1⟩ : ∃ W1, W1 = (wr.alloc (.cells #[.int .u8 (y0.toNat : Int), .int .u8 (y1.toNat : Int), .int .u8 (y2.toNat : Int), .int .u8 (y3.toNat : Int)] 5)).drew := ⟨_, rfl⟩
              rw [← hW1]
              have hbw : Below wr.heap.size wr W1 := by rw [hW1]; exact (below_alloc _ _).drew
              have hB9 : Bs W1 (some ⟨wr.heap.size, 0, none⟩) 4 4 (tmpW X k) := by rw [hW1, HE.out]; exact (Bs.made wr [y0, y1, y2, y3] _ rfl (by simp)).drew
              have hB8t := hB8.below hbw (Nat.le_refl _)
              have hot := ho.below hbw (Nat.le_refl _)
              have hWt := hW.below hbw
              have hbt := hb.trans (hbw.mono hb.size)
              have c8t : W1.cell? ⟨g, k - 8, none⟩ = some (.slice p8 4 q8) := (hbw.cell (p := ⟨g, k - 8, none⟩) (lt_of_cell c8)).trans c8
              clear hW1 ho hW hb hB8 c1 c8 x0c x1c x2c x3c y0c y1c y2c y3c
              go_wp2_with (first
                | (go_at_call 28; go_must (refine (rBoth W1 hB8t hB9 (by omega) (by omega)).mono ?_); rintro e wu ⟨au, mu, cu, rfl, hou, hbu⟩; have hBu := hou.toBs; have hmu : mu = 4 := by rw [← hBu.len]; exact HX4.out
                   subst hmu; have hou1 := hot.below hbu (Nat.le_refl _); have hqu := hbt.trans (hbu.mono hbt.size); have hsu := hqu.size)
                | (at_builtin; go_must (refine wpList_vapp (wu.alloc (.cells #[.slice au 4 cu] 27)) rfl (.tmp 93) (.tmp 101) rfl w.heap.size _ vs rfl (hou1.below (below_alloc _ _) (Nat.le_refl _)) (some ⟨wu.heap.size, 0, none⟩) 1 1 [.slice au 4 cu] rfl rfl (one_cell wu _ _) one_one (by have := HVL.out; simp; omega) (by simp; omega) ?_); intro v2 w2 ho2 hg2))
              go_roundw
              case rel =>
                have ho3 := hou1.below (below_alloc wu (.cells #[.slice au 4 cu] 27)) (Nat.le_refl _)
                have hq3 := hqu.alloc hsu (.cells #[.slice au 4 cu] 27)
                (repeat apply Exists.intro)
                refine ⟨?_, rfl⟩
                refine ⟨k + 1, vs ++ [.slice au 4 cu], by omega, by omega, by go_num, by rw [Nat.add_sub_cancel, ← HPN.out], by have := HVL.out; simp; omega, ho2, ?_, hq3.grown hg2 (by simp; omega) (fun j hj => ho3.size j hj)⟩
                refine ((hWt.below hbu).below (below_alloc _ _)).snoc ho3 hg2 ?_ ((hou.bytes5).below (below_alloc _ _))
                rw [HVL.out, HHi.out]
                exact hBu.below (below_alloc _ _) (Nat.le_refl _)
              case measure => simp [intOf]; omega
            · have HE : Hid (X = tmpW X k) := tmp_same X (by rw [← HM.out]; exact hz) (by rw [← HM.out]; exact h4)
              have HPN : Hid (P = dpow (k / 8)) := by show _ = _; rw [HP.out]; exact pow_stay (by rw [← HM.out]; exact hz)
              have z0 : ((m : Int) == 0) = false := by simp; omega
              have z4 : ((m : Int) == 4) = false := by simp; omega
              have hB9 : Bs wr p1 4 q1 (tmpW X k) := by rw [← HE.out]; exact hB1
              have hB8t := hB8
              have hot := ho
              have hWt := hW
              have hbt := hb
              clear hz h4 hB1
              go_wp2_with (first
                | (go_at_call 28; go_must (refine (rBoth wr hB8t hB9 (by omega) (by omega)).mono ?_); rintro e wu ⟨au, mu, cu, rfl, hou, hbu⟩; have hBu := hou.toBs; have hmu : mu = 4 := by rw [← hBu.len]; exact HX4.out
                   subst hmu; have hou1 := hot.below hbu (Nat.le_refl _); have hqu := hbt.trans (hbu.mono hbt.size); have hsu := hqu.size)
                | (at_builtin; go_must (refine wpList_vapp (wu.alloc (.cells #[.slice au 4 cu] 27)) rfl (.tmp 93) (.tmp 101) rfl w.heap.size _ vs rfl (hou1.below (below_alloc _ _) (Nat.le_refl _)) (some ⟨wu.heap.size, 0, none⟩) 1 1 [.slice au 4 cu] rfl rfl (one_cell wu _ _) one_one (by have := HVL.out; simp; omega) (by simp; omega) ?_); intro v2 w2 ho2 hg2))
              go_roundw
              case rel =>
                have ho3 := hou1.below (below_alloc wu (.cells #[.slice au 4 cu] 27)) (Nat.le_refl _)
                have hq3 := hqu.alloc hsu (.cells #[.slice au 4 cu] 27)
                (repeat apply Exists.intro)
                refine ⟨?_, rfl⟩
                refine ⟨k + 1, vs ++ [.slice au 4 cu], by omega, by omega, by go_num, by rw [Nat.add_sub_cancel, ← HPN.out], by have := HVL.out; simp; omega, ho2, ?_, hq3.grown hg2 (by simp; omega) (fun j hj => ho3.size j hj)⟩
                refine ((hWt.below hbu).below (below_alloc _ _)).snoc ho3 hg2 ?_ ((hou.bytes5).below (below_alloc _ _))
                rw [HVL.out, HHi.out]
                exact hBu.below (below_alloc _ _) (Nat.le_refl _)
              case measure => simp [intOf]; omega
        · obtain rfl : k = 60 := by omega
          obtain ⟨p, q, rfl, hB⟩ := hW.bss ho hvl
          go_wp2_with fail
          go_ret
          exact ⟨p, q, rfl, hB, hb⟩

end Go.Proofs.Ytofhnigdfmekdaa
