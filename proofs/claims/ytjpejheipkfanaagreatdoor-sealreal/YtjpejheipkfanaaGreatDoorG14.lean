/-
  8 texts in one. No statement of the seat is proved here.
-/
import Derived.Test.YtjpejheipkfanaaGreatDoorG13
import Derived.Deep.RegionHeld3
import Derived.Deep.RegionLaw
import Derived.BigRegion
/-
  The contract of the reference's Words: the words of all rounds' keys. Condition: a key of 32 bytes; the box of all bytes lies where the slice leads.
-/
namespace Go.Proofs.YtjpejheipkfanaaGreatDoor
open Go.RowKit

/-- A slice that lies in old memory, or in a block of bytes. -/
def Bytes5 (w : World) (base : Nat) (p : Option Addr) : Prop := ∀ x, p = some x → x.block < w.heap.size ∧ (x.block < base ∨ ∃ cur f, w.heap[x.block]? = some (.cells cur 5 f))
/-- The slices vs hold the words of F, each in old memory, or in a block of bytes. -/
def WordsIn (w : World) (base : Nat) (F : List UInt8) (vs : List Value) : Prop := ∀ i, i < vs.length → ∃ p q, vs[i]? = some (.slice p 4 q) ∧ Bs w p 4 q (wd F i) ∧ Bytes5 w base p

theorem Bytes5.below {w w' : World} {base : Nat} {p : Option Addr} (h : Bytes5 w base p) (hb : Below w.heap.size w w') : Bytes5 w' base p := fun x hx => by
  obtain ⟨h1, h2⟩ := h x hx
  refine ⟨Nat.lt_of_lt_of_le h1 hb.size, ?_⟩
  rcases h2 with h2 | ⟨cur, f, h2⟩
  · exact Or.inl h2
  · exact Or.inr ⟨cur, f, by rw [hb.block _ h1]; exact h2⟩
theorem WordsIn.below {w w' : World} {base : Nat} {F : List UInt8} {vs : List Value} (h : WordsIn w base F vs) (hb : Below w.heap.size w w') : WordsIn w' base F vs := fun i hi => by
  obtain ⟨p, q, e, hB, h5⟩ := h i hi
  exact ⟨p, q, e, hB.below hb (Nat.le_refl _), h5.below hb⟩
theorem OwnV.not5 {w : World} {base : Nat} {v : Value} {vs : List Value} (h : OwnV w base v vs) {p : Option Addr} (h5 : Bytes5 w base p) (x : Addr) (hx : p = some x) : v.ownBlock ≠ some x.block := fun e => by
  obtain ⟨h1, h2⟩ := h5 x hx
  rcases h2 with h2 | ⟨cur, f, h2⟩
  · have := h.size _ e
    omega
  · rcases h.2 with ⟨rfl, _⟩ | ⟨g, cap, cur', rfl, _, hg, _⟩
    · simp [Value.ownBlock] at e
    · simp only [Value.ownBlock, Option.some.injEq] at e
      rw [e, h2] at hg
      simp only [Option.some.injEq, Obj.cells.injEq] at hg
      exact absurd hg.2.1 (by decide)
theorem Bs.grownV {w w' : World} {r : Option Nat} {a : Option Addr} {n c : Nat} {l : List UInt8} (h : Bs w a n c l) (hg : w.grownBy w' r) (hr : ∀ x, a = some x → r ≠ some x.block) : Bs w' a n c l := by
  refine ⟨h.1, h.2.1, h.2.2.1, h.2.2.2.1, fun i hi => ?_⟩
  obtain ⟨b, o, ha, hc⟩ := h.2.2.2.2 i hi
  exact ⟨b, o, ha, hg.cell hc (fun e => hr _ ha e.symm)⟩
theorem Bytes5.grown {w w' : World} {base : Nat} {r : Option Nat} {p : Option Addr} (h : Bytes5 w base p) (hg : w.grownBy w' r) (hr : ∀ x, p = some x → r ≠ some x.block) : Bytes5 w' base p := fun x hx => by
  obtain ⟨h1, h2⟩ := h x hx
  refine ⟨Nat.lt_of_lt_of_le h1 hg.size, ?_⟩
  rcases h2 with h2 | ⟨cur, f, h2⟩
  · exact Or.inl h2
  · exact Or.inr ⟨cur, f, by rw [hg.block _ h1 (fun e => hr x hx e.symm)]; exact h2⟩
/-- One more word. -/
theorem WordsIn.snoc {w w' : World} {base : Nat} {F : List UInt8} {v : Value} {vs : List Value} {p : Option Addr} {q : Nat} (h : WordsIn w base F vs) (ho : OwnV w base v vs) (hg : w.grownBy w' v.ownBlock) (hB : Bs w p 4 q (wd F vs.length)) (h5 : Bytes5 w base p) : WordsIn w' base F (vs ++ [.slice p 4 q]) := fun i hi => by
  by_cases hlt : i < vs.length
  · obtain ⟨p', q', e, hB', h5'⟩ := h i hlt
    refine ⟨p', q', by rw [List.getElem?_append_left hlt]; exact e, hB'.grownV hg (ho.not5 h5'), h5'.grown hg (ho.not5 h5')⟩
  · have e : i = vs.length := by simp at hi; omega
    subst e
    exact ⟨p, q, by simp, hB.grownV hg (ho.not5 h5), h5.grown hg (ho.not5 h5)⟩
theorem Own.bytes5 {w : World} {b base : Nat} {p : Option Addr} {m q : Nat} {l : List UInt8} (h : Own w b (.slice p m q) l) : Bytes5 w base p := fun x hx => by
  subst hx
  refine ⟨(World.ownsRow.lt h _ rfl).2, ?_⟩
  rcases h.2 with ⟨e, _⟩ | ⟨g, cap, cur, e, _, hg, _⟩
  · simp at e
  · simp only [Value.slice.injEq, Option.some.injEq] at e
    obtain ⟨rfl, _, _⟩ := e
    exact Or.inr ⟨cur, (0, 0), hg⟩
/-- Slices of slices that are owned begin somewhere. -/
theorem OwnV.at {w : World} {base : Nat} {v : Value} {vs : List Value} (h : OwnV w base v vs) (hn : 0 < vs.length) : ∃ g cap, v = .slice (some ⟨g, 0, none⟩) vs.length cap ∧ ∀ i, i < vs.length → w.cell? ⟨g, i, none⟩ = vs[i]? := by
  have h' := h
  rcases h.2 with ⟨_, h0⟩ | ⟨g, cap, cur, rfl, _, _, _⟩
  · omega
  · refine ⟨g, cap, rfl, fun i hi => ?_⟩
    have := World.ownsRow.cellAt h' i (by omega)
    simpa using this
theorem WordsIn.bss {w : World} {base : Nat} {F : List UInt8} {v : Value} {vs : List Value} (h : WordsIn w base F vs) (ho : OwnV w base v vs) (hl : vs.length = 60) : ∃ a c, v = .slice a 60 c ∧ Bss w a 60 c (wdsL F) := by
  obtain ⟨a, c, hv, hB⟩ := ho.bss (ls := wdsL F) (by rw [hl]; simp [wdsL]) (fun i hi => by
    obtain ⟨p, q, e, hB, _⟩ := h i hi
    exact ⟨p, 4, q, e, by rw [wdsL_at F (by omega)]; exact hB⟩)
  rw [hl] at hv hB
  exact ⟨a, c, hv, hB⟩

theorem map4 (f : UInt8 → UInt8) {X : List UInt8} (h : X.length = 4) : X.map f = [f (X.getD 0 0), f (X.getD 1 0), f (X.getD 2 0), f (X.getD 3 0)] := by
  obtain ⟨a, b, c, d, rfl⟩ := len4 h
  rfl

set_option maxRecDepth 100000 in
set_option maxHeartbeats 4000000 in
theorem rWordsA (w : World) {a a' : Option Addr} {c c' : Nat} {key : List UInt8} (hX : Bs w a 256 c boxT) (hk : Bs w a' 32 c' key) :
    Calls Tryz.prog 60 #[.slice a 256 c, .slice a' 32 c'] w fun e w' => ∃ p q, e = .returned (.slice p 60 q) ∧ Bss w' p 60 q (wdsL (keyF key)) ∧ Below w.heap.size w w' := by
  have hkl := hk.len
  have HF : Hid ((keyF key).length = 240) := keyF_length hkl
  have HLow : Hid (∀ i, i < 8 → wd (keyF key) i = wd key i) := fun i hi => wd_low hkl hi
  have HHigh : Hid (∀ i, i < 60 → 8 ≤ i → wd (keyF key) i = xorL (wd (keyF key) (i - 8)) (tmpW (wd (keyF key) (i - 1)) i)) := fun i hi h8 => wd_high hkl hi h8
  generalize hF : keyF key = F at *
  clear hF
  obtain ⟨bx, ox, rfl, hx, hc⟩ := hX.at (by omega)
  go_enter Tryz.func60, Tryz.ntmps60
  go_wp2_with fail
  go_loopw [5, 6] (fun v i wr => ∃ (k : Nat) (vs : List Value), k ≤ 8 ∧ i = .int .i64 k ∧ vs.length = k ∧ OwnV wr w.heap.size v vs ∧ WordsIn wr w.heap.size F vs ∧ Below w.heap.size w wr) (fun _ i _ => 8 - (intOf i).toNat)
  case atStart => exact ⟨0, [], by omega, rfl, rfl, World.ownsRow_nil _ _ _ _, fun i hi => by simp at hi, Below.refl _ _⟩
  case round =>
    obtain ⟨k, vs, hk8, rfl, hvl, ho, hW, hb⟩ := hrel
    by_cases hlt : k < 8
    · have k0 : (0 : Int) ≤ (k : Int) := by omega
      have k8 : (k : Int) < 8 := by omega
      obtain ⟨p, q, hcut, hB⟩ := hk.cut2 (4 * k) (4 * k + 4) (by omega) (by omega)
      rw [show 4 * k + 4 - 4 * k = 4 from by omega] at hcut hB
      rw [show ((4 * k : Nat) : Int) = 4 * (k : Int) from by omega, show ((4 * k + 4 : Nat) : Int) = 4 * (k : Int) + 4 from by omega] at hcut
      have hBw : Bs w p 4 q (wd F k) := by rw [HLow.out k hlt]; exact hB w hk
      have h5 : Bytes5 wr w.heap.size p := fun x hx => by
        obtain ⟨b', o', e, hl', _⟩ := hBw.at (by omega)
        rw [e] at hx
        simp only [Option.some.injEq] at hx
        subst hx
        exact ⟨Nat.lt_of_lt_of_le hl' hb.size, Or.inl hl'⟩
      have HVL : Hid (vs.length = k) := hvl
      have hs := hb.size
      have hq := hb.alloc hs (.cells #[.slice p 4 q] 32)
      clear hB hvl
      go_wp2_with (at_builtin; go_must (refine wpList_vapp (wr.alloc (.cells #[.slice p 4 q] 32)) rfl (.tmp 14) (.tmp 22) rfl w.heap.size _ vs rfl (ho.below (below_alloc _ _) (Nat.le_refl _)) (some ⟨wr.heap.size, 0, none⟩) 1 1 [.slice p 4 q] rfl rfl (one_cell wr _ _) one_one (by have := HVL.out; simp; omega) (by simp; omega) ?_); intro v2 w2 ho2 hg2)
      go_roundw
      case rel =>
        have ho1 := ho.below (below_alloc wr (.cells #[.slice p 4 q] 32)) (Nat.le_refl _)
        refine ⟨k + 1, vs ++ [.slice p 4 q], by omega, by go_num, by have := HVL.out; simp; omega, ho2, ?_, hq.grown hg2 (by simp; omega) (fun j hj => ho1.size j hj)⟩
        refine (hW.below (below_alloc _ _)).snoc ho1 hg2 ?_ (h5.below (below_alloc _ _))
        rw [HVL.out]
        exact hBw.below hq (Nat.le_refl _)
      case measure => simp [intOf]; omega
    · obtain rfl : k = 8 := by omega
      go_wp2_with fail
      go_loopw [5, 7, 8, 9] (fun v r i _ wr => ∃ (k : Nat) (vs : List Value), 8 ≤ k ∧ k ≤ 60 ∧ i = .int .i64 k ∧ r = .int .u8 ((dpow ((k - 1) / 8)).toNat : Int) ∧ vs.length = k ∧ OwnV wr w.heap.size v vs ∧ WordsIn wr w.heap.size F vs ∧ Below w.heap.size w wr) (fun _ _ i _ _ => 60 - (intOf i).toNat)
      case atStart => exact ⟨8, vs, by omega, by omega, rfl, rfl, hvl, ho, hW, hb⟩
      case round =>
        clear ho hW hb hvl hk8 hlt vs
        obtain ⟨k, vs, hk8, hk60, rfl, rfl, hvl, ho, hW, hb⟩ := hrel
        by_cases hlt : k < 60
        · have h0 : (0 : Int) ≤ (k : Int) := by omega
          have h8 : (8 : Int) ≤ (k : Int) := by omega
          have h60 : (k : Int) < 60 := by omega
          obtain ⟨g, cap, hv, hcell⟩ := ho.at (by omega)
          rw [hvl] at hv hcell
          subst hv
          obtain ⟨p1, q1, e1, hB1, _⟩ := hW (k - 1) (by omega)
          obtain ⟨p8, q8, e8, hB8, _⟩ := hW (k - 8) (by omega)
          have c1 := hcell (k - 1) (by omega)
          have c8 := hcell (k - 8) (by omega)
          rw [e1] at c1
          rw [e8] at c8
          clear hcell e1 e8
          have HVL : Hid (vs.length = k) := hvl
          clear hvl
          have HX : Hid ((wd F (k - 1)).length = 4) := hB1.len
          have HHi : Hid (wd F k = xorL (wd F (k - 8)) (tmpW (wd F (k - 1)) k)) := HHigh.out k hlt hk8
          have HX4 : Hid ((xorL (wd F (k - 8)) (tmpW (wd F (k - 1)) k)).length = 4) := by show _ = _; rw [← HHi.out]; exact wd_length (by have := HF.out; omega)
          obtain ⟨m, hm⟩ : ∃ m, m = k % 8 := ⟨_, rfl⟩
          have HM : Hid (m = k % 8) := hm
          have hm0 : (k : Int) % 8 = (m : Int) := by omega
          have hm1 : (k : Int).tmod 8 = (m : Int) := by rw [Int.tmod_eq_emod_of_nonneg (by omega)]; omega
          clear hm
          generalize hX' : wd F (k - 1) = X at *
          clear hX'
          obtain ⟨P, hP⟩ : ∃ P, P = dpow ((k - 1) / 8) := ⟨_, rfl⟩
          rw [← hP]
          have HP : Hid (P = dpow ((k - 1) / 8)) := hP
          clear hP
          by_cases hz : m = 0
          · have HK : Hid (k % 8 = 0) := by show _ = _; rw [← HM.out]; exact hz
            subst hz
            have HPN : Hid (dbl P = dpow (k / 8)) := by show _ = _; rw [HP.out]; exact pow_up hk8 HK.out
            have HE0 : tmpW X k = [box (X.getD 1 0) ^^^ P, box (X.getD 2 0), box (X.getD 3 0), box (X.getD 0 0)] := by unfold tmpW; rw [if_pos HK.out, HP.out]
            obtain ⟨b1, o1, rfl, hb1l, hcx⟩ := hB1.at (by omega)
            have x0c : wr.cell? ⟨b1, o1, none⟩ = some (.int .u8 (bt X 0)) := hcx 0 (by omega)
            have x1c := hcx 1 (by omega)
            have x2c := hcx 2 (by omega)
            have x3c := hcx 3 (by omega)
            have bxc : ∀ z : UInt8, wr.cell? ⟨bx, ox + z.toNat, none⟩ = some (.int .u8 ((box z).toNat : Int)) := fun z => by rw [hb.cell (p := ⟨bx, ox + z.toNat, none⟩) hx, hc z.toNat (b_lt z), box_at]
            unfold bt at x0c x1c x2c x3c
            generalize X.getD 0 0 = x0 at *
            generalize X.getD 1 0 = x1 at *
            generalize X.getD 2 0 = x2 at *
            generalize X.getD 3 0 = x3 at *
            have y0c := bxc x0
            have y1c := bxc x1
            have y2c := bxc x2
            have y3c := bxc x3
            have l0 : (x0.toNat : Int) < 256 := by have := b_lt x0; omega
            have l1 : (x1.toNat : Int) < 256 := by have := b_lt x1; omega
            have l2 : (x2.toNat : Int) < 256 := by have := b_lt x2; omega
            have l3 : (x3.toNat : Int) < 256 := by have := b_lt x3; omega
            generalize box x0 = y0 at *
            generalize box x1 = y1 at *
            generalize box x2 = y2 at *
            generalize box x3 = y3 at *
            clear bxc hcx hB1
            have xo := xor_u8 y1 P
            generalize y1 ^^^ P = y5 at *
            have HE : Hid (tmpW X k = [y5, y2, y3, y0]) := HE0
            have CT : Hid (∀ w, Calls Tryz.prog 79 #[.int .u8 (P.toNat : Int), .int .u8 2] w fun e w' => e = .returned (.int .u8 ((dbl P).toNat : Int)) ∧ w = w') := fun w => by have := rTimesI w P 2 (by decide); rw [times2] at this; exact this.mono fun _ _ ⟨h1, h2⟩ => ⟨h1, h2.symm⟩
            clear HE0
            go_wp2_with fail
            go_region_held3 (fun w' => w'.cell? ⟨b1, o1, none⟩ = some (.int .u8 (x0.toNat : Int)) ∧ w'.cell? ⟨b1, o1 + 1, none⟩ = some (.int .u8 (x1.toNat : Int)) ∧ w'.cell? ⟨b1, o1 + 2, none⟩ = some (.int .u8 (x2.toNat : Int)) ∧ w'.cell? ⟨b1, o1 + 3, none⟩ = some (.int .u8 (x3.toNat : Int)) ∧ w'.cell? ⟨bx, ox + x0.toNat, none⟩ = some (.int .u8 (y0.toNat : Int)) ∧ w'.cell? ⟨bx, ox + x1.toNat, none⟩ = some (.int .u8 (y1.toNat : Int)) ∧ w'.cell? ⟨bx, ox + x2.toNat, none⟩ = some (.int .u8 (y2.toNat : Int)) ∧ w'.cell? ⟨bx, ox + x3.toNat, none⟩ = some (.int .u8 (y3.toNat : Int))) (first | assumption | (refine ⟨?_, ?_, ?_, ?_, ?_, ?_, ?_, ?_⟩ <;> assumption) | go_keep) (fail)
            obtain ⟨W1, hW1⟩ : ∃ W1, W1 = (wr.alloc (.cells #[.int .u8 (y5.toNat : Int), .int .u8 (y2.toNat : Int), .int .u8 (y3.toNat : Int), .int .u8 (y0.toNat : Int)] 5)).drew := ⟨_, rfl⟩
            rw [← hW1]
            have hbw : Below wr.heap.size wr W1 := by rw [hW1]; exact (below_alloc _ _).drew
            have hB9 : Bs W1 (some ⟨wr.heap.size, 0, none⟩) 4 4 (tmpW X k) := by rw [hW1, HE.out]; exact (Bs.made wr [y5, y2, y3, y0] _ rfl (by simp)).drew
            have hB8t := hB8.below hbw (Nat.le_refl _)
            have hot := ho.below hbw (Nat.le_refl _)
            have hWt := hW.below hbw
            have hbt := hb.trans (hbw.mono hb.size)
            have c8t : W1.cell? ⟨g, k - 8, none⟩ = some (.slice p8 4 q8) := (hbw.cell (p := ⟨g, k - 8, none⟩) (lt_of_cell c8)).trans c8
            clear hW1 ho hW hb hB8 c1 c8 x0c x1c x2c x3c y0c y1c y2c y3c
            go_wp2_with (first
              | (go_at_call 79; go_must (refine (CT.out W1).mono ?_); rintro e wt ⟨rfl, rfl⟩)
              | (go_at_call 80; go_must (refine (rBoth W1 hB8t hB9 (by omega) (by omega)).mono ?_); rintro e wu ⟨au, mu, cu, rfl, hou, hbu⟩; have hBu := hou.toBs; have hmu : mu = 4 := by rw [← hBu.len]; exact HX4.out
                 subst hmu; have hou1 := hot.below hbu (Nat.le_refl _); have hqu := hbt.trans (hbu.mono hbt.size); have hsu := hqu.size)
              | (at_builtin; go_must (refine wpList_vapp (wu.alloc (.cells #[.slice au 4 cu] 32)) rfl (.tmp 93) (.tmp 101) rfl w.heap.size _ vs rfl (hou1.below (below_alloc _ _) (Nat.le_refl _)) (some ⟨wu.heap.size, 0, none⟩) 1 1 [.slice au 4 cu] rfl rfl (one_cell wu _ _) one_one (by have := HVL.out; simp; omega) (by simp; omega) ?_); intro v2 w2 ho2 hg2))
            go_roundw
            case rel =>
              have ho3 := hou1.below (below_alloc wu (.cells #[.slice au 4 cu] 32)) (Nat.le_refl _)
              have hq3 := hqu.alloc hsu (.cells #[.slice au 4 cu] 32)
              (repeat apply Exists.intro)
              refine ⟨?_, rfl⟩
              refine ⟨k + 1, vs ++ [.slice au 4 cu], by omega, by omega, by go_num, by rw [Nat.add_sub_cancel, ← HPN.out], by have := HVL.out; simp; omega, ho2, ?_, hq3.grown hg2 (by simp; omega) (fun j hj => ho3.size j hj)⟩
              refine ((hWt.below hbu).below (below_alloc _ _)).snoc ho3 hg2 ?_ ((hou.bytes5).below (below_alloc _ _))
              rw [HVL.out, HHi.out]
              exact hBu.below (below_alloc _ _) (Nat.le_refl _)
            case measure => simp [intOf]; omega
          · by_cases h4 : m = 4
            · have HK : Hid (k % 8 = 4) := by show _ = _; rw [← HM.out]; exact h4
              subst h4
              have HPN : Hid (P = dpow (k / 8)) := by show _ = _; rw [HP.out]; exact pow_stay (by rw [HK.out]; omega)
              have HE0 : tmpW X k = [box (X.getD 0 0), box (X.getD 1 0), box (X.getD 2 0), box (X.getD 3 0)] := by rw [← tmp_half X HK.out]; exact map4 box HX.out
              obtain ⟨b1, o1, rfl, hb1l, hcx⟩ := hB1.at (by omega)
              have x0c : wr.cell? ⟨b1, o1, none⟩ = some (.int .u8 (bt X 0)) := hcx 0 (by omega)
              have x1c := hcx 1 (by omega)
              have x2c := hcx 2 (by omega)
              have x3c := hcx 3 (by omega)
              have bxc : ∀ z : UInt8, wr.cell? ⟨bx, ox + z.toNat, none⟩ = some (.int .u8 ((box z).toNat : Int)) := fun z => by rw [hb.cell (p := ⟨bx, ox + z.toNat, none⟩) hx, hc z.toNat (b_lt z), box_at]
              unfold bt at x0c x1c x2c x3c
              generalize X.getD 0 0 = x0 at *
              generalize X.getD 1 0 = x1 at *
              generalize X.getD 2 0 = x2 at *
              generalize X.getD 3 0 = x3 at *
              have y0c := bxc x0
              have y1c := bxc x1
              have y2c := bxc x2
              have y3c := bxc x3
              have l0 : (x0.toNat : Int) < 256 := by have := b_lt x0; omega
              have l1 : (x1.toNat : Int) < 256 := by have := b_lt x1; omega
              have l2 : (x2.toNat : Int) < 256 := by have := b_lt x2; omega
              have l3 : (x3.toNat : Int) < 256 := by have := b_lt x3; omega
              generalize box x0 = y0 at *
              generalize box x1 = y1 at *
              generalize box x2 = y2 at *
              generalize box x3 = y3 at *
              clear bxc hcx hB1
              have HE : Hid (tmpW X k = [y0, y1, y2, y3]) := HE0
              clear HE0 hz
              go_wp2_with fail
              go_region_held3 (fun w' => w'.cell? ⟨b1, o1, none⟩ = some (.int .u8 (x0.toNat : Int)) ∧ w'.cell? ⟨b1, o1 + 1, none⟩ = some (.int .u8 (x1.toNat : Int)) ∧ w'.cell? ⟨b1, o1 + 2, none⟩ = some (.int .u8 (x2.toNat : Int)) ∧ w'.cell? ⟨b1, o1 + 3, none⟩ = some (.int .u8 (x3.toNat : Int)) ∧ w'.cell? ⟨bx, ox + x0.toNat, none⟩ = some (.int .u8 (y0.toNat : Int)) ∧ w'.cell? ⟨bx, ox + x1.toNat, none⟩ = some (.int .u8 (y1.toNat : Int)) ∧ w'.cell? ⟨bx, ox + x2.toNat, none⟩ = some (.int .u8 (y2.toNat : Int)) ∧ w'.cell? ⟨bx, ox + x3.toNat, none⟩ = some (.int .u8 (y3.toNat : Int))) (first | assumption | (refine ⟨?_, ?_, ?_, ?_, ?_, ?_, ?_, ?_⟩ <;> assumption) | go_keep) (fail)
              obtain ⟨W1, hW1⟩ : ∃ W1, W1 = (wr.alloc (.cells #[.int .u8 (y0.toNat : Int), .int .u8 (y1.toNat : Int), .int .u8 (y2.toNat : Int), .int .u8 (y3.toNat : Int)] 5)).drew := ⟨_, rfl⟩
              rw [← hW1]
              have hbw : Below wr.heap.size wr W1 := by rw [hW1]; exact (below_alloc _ _).drew
              have hB9 : Bs W1 (some ⟨wr.heap.size, 0, none⟩) 4 4 (tmpW X k) := by rw [hW1, HE.out]; exact (Bs.made wr [y0, y1, y2, y3] _ rfl (by simp)).drew
              have hB8t := hB8.below hbw (Nat.le_refl _)
              have hot := ho.below hbw (Nat.le_refl _)
              have hWt := hW.below hbw
              have hbt := hb.trans (hbw.mono hb.size)
              have c8t : W1.cell? ⟨g, k - 8, none⟩ = some (.slice p8 4 q8) := (hbw.cell (p := ⟨g, k - 8, none⟩) (lt_of_cell c8)).trans c8
              clear hW1 ho hW hb hB8 c1 c8 x0c x1c x2c x3c y0c y1c y2c y3c
              go_wp2_with (first
                | (go_at_call 80; go_must (refine (rBoth W1 hB8t hB9 (by omega) (by omega)).mono ?_); rintro e wu ⟨au, mu, cu, rfl, hou, hbu⟩; have hBu := hou.toBs; have hmu : mu = 4 := by rw [← hBu.len]; exact HX4.out
                   subst hmu; have hou1 := hot.below hbu (Nat.le_refl _); have hqu := hbt.trans (hbu.mono hbt.size); have hsu := hqu.size)
                | (at_builtin; go_must (refine wpList_vapp (wu.alloc (.cells #[.slice au 4 cu] 32)) rfl (.tmp 93) (.tmp 101) rfl w.heap.size _ vs rfl (hou1.below (below_alloc _ _) (Nat.le_refl _)) (some ⟨wu.heap.size, 0, none⟩) 1 1 [.slice au 4 cu] rfl rfl (one_cell wu _ _) one_one (by have := HVL.out; simp; omega) (by simp; omega) ?_); intro v2 w2 ho2 hg2))
              go_roundw
              case rel =>
                have ho3 := hou1.below (below_alloc wu (.cells #[.slice au 4 cu] 32)) (Nat.le_refl _)
                have hq3 := hqu.alloc hsu (.cells #[.slice au 4 cu] 32)
                (repeat apply Exists.intro)
                refine ⟨?_, rfl⟩
                refine ⟨k + 1, vs ++ [.slice au 4 cu], by omega, by omega, by go_num, by rw [Nat.add_sub_cancel, ← HPN.out], by have := HVL.out; simp; omega, ho2, ?_, hq3.grown hg2 (by simp; omega) (fun j hj => ho3.size j hj)⟩
                refine ((hWt.below hbu).below (below_alloc _ _)).snoc ho3 hg2 ?_ ((hou.bytes5).below (below_alloc _ _))
                rw [HVL.out, HHi.out]
                exact hBu.below (below_alloc _ _) (Nat.le_refl _)
              case measure => simp [intOf]; omega
            · have HE : Hid (X = tmpW X k) := tmp_same X (by rw [← HM.out]; exact hz) (by rw [← HM.out]; exact h4)
              have HPN : Hid (P = dpow (k / 8)) := by show _ = _; rw [HP.out]; exact pow_stay (by rw [← HM.out]; exact hz)
              have z0 : ((m : Int) == 0) = false := by simp; omega
              have z4 : ((m : Int) == 4) = false := by simp; omega
              have hB9 : Bs wr p1 4 q1 (tmpW X k) := by rw [← HE.out]; exact hB1
              have hB8t := hB8
              have hot := ho
              have hWt := hW
              have hbt := hb
              clear hz h4 hB1
              go_wp2_with (first
                | (go_at_call 80; go_must (refine (rBoth wr hB8t hB9 (by omega) (by omega)).mono ?_); rintro e wu ⟨au, mu, cu, rfl, hou, hbu⟩; have hBu := hou.toBs; have hmu : mu = 4 := by rw [← hBu.len]; exact HX4.out
                   subst hmu; have hou1 := hot.below hbu (Nat.le_refl _); have hqu := hbt.trans (hbu.mono hbt.size); have hsu := hqu.size)
                | (at_builtin; go_must (refine wpList_vapp (wu.alloc (.cells #[.slice au 4 cu] 32)) rfl (.tmp 93) (.tmp 101) rfl w.heap.size _ vs rfl (hou1.below (below_alloc _ _) (Nat.le_refl _)) (some ⟨wu.heap.size, 0, none⟩) 1 1 [.slice au 4 cu] rfl rfl (one_cell wu _ _) one_one (by have := HVL.out; simp; omega) (by simp; omega) ?_); intro v2 w2 ho2 hg2))
              go_roundw
              case rel =>
                have ho3 := hou1.below (below_alloc wu (.cells #[.slice au 4 cu] 32)) (Nat.le_refl _)
                have hq3 := hqu.alloc hsu (.cells #[.slice au 4 cu] 32)
                (repeat apply Exists.intro)
                refine ⟨?_, rfl⟩
                refine ⟨k + 1, vs ++ [.slice au 4 cu], by omega, by omega, by go_num, by rw [Nat.add_sub_cancel, ← HPN.out], by have := HVL.out; simp; omega, ho2, ?_, hq3.grown hg2 (by simp; omega) (fun j hj => ho3.size j hj)⟩
                refine ((hWt.below hbu).below (below_alloc _ _)).snoc ho3 hg2 ?_ ((hou.bytes5).below (below_alloc _ _))
                rw [HVL.out, HHi.out]
                exact hBu.below (below_alloc _ _) (Nat.le_refl _)
              case measure => simp [intOf]; omega
        · obtain rfl : k = 60 := by omega
          obtain ⟨p, q, rfl, hB⟩ := hW.bss ho hvl
          go_wp2_with fail
          go_ret
          exact ⟨p, q, rfl, hB, hb⟩

end Go.Proofs.YtjpejheipkfanaaGreatDoor

/-
  The contract of the reference's Block. Conditions: a block of 16 bytes; the box of all bytes, and the words of all rounds' keys, lie where the slices lead.
-/
namespace Go.Proofs.YtjpejheipkfanaaGreatDoor
open Go.RowKit

/-- Sixteen bytes that a call handed back. -/
theorem Own.bs16 {w : World} {b : Nat} {p : Option Addr} {m q : Nat} {l : List UInt8} (h : Own w b (.slice p m q) l) (hl : l.length = 16) : m = 16 := by
  rw [← h.toBs.len]; exact hl

set_option maxRecDepth 100000 in
set_option maxHeartbeats 2000000 in
theorem rBlock (w : World) {a wa ab : Option Addr} {c wc' cb : Nat} {F b : List UInt8} (hX : Bs w a 256 c boxT) (hF : F.length = 240) (hW : Bss w wa 60 wc' (wdsL F)) (hb : Bs w ab 16 cb b) :
    Calls Tryz.prog 62 #[.slice a 256 c, .slice wa 60 wc', .slice ab 16 cb] w (Gives w (aesL F b)) := by
  have HB : Hid (b.length = 16) := hb.len
  have HR : Hid (∀ r, r ≤ 14 → (rk F r).length = 16) := fun r hr => rk_length hF hr
  have HS : Hid (∀ r, r ≤ 14 → (blkS F b r).length = 16) := fun r hr => blkS_length hF HB.out hr
  have CK : Hid (∀ (w : World) (r : Nat), Bss w wa 60 wc' (wdsL F) → r ≤ 14 → Calls Tryz.prog 81 #[.slice wa 60 wc', .int .i64 (r : Int)] w (Gives w (rk F r))) := fun w r h hr => rRoundKey w hF h r hr
  have C0 : Hid (Calls Tryz.prog 81 #[.slice wa 60 wc', .int .i64 0] w (Gives w (rk F 0))) := CK.out w 0 hW (by omega)
  clear hF
  go_enter Tryz.func62, Tryz.ntmps62
  go_wp2_with fail
  refine C0.out.mono ?_
  rintro e w1 ⟨a1, m1, c1, rfl, ho1, hb1⟩
  obtain rfl := ho1.bs16 (HR.out 0 (by omega))
  go_wp2_with fail
  refine (rBoth w1 (hb.below hb1 (Nat.le_refl _)) ho1.toBs (by omega) (by omega)).mono ?_
  rintro e w2 ⟨a2, m2, c2, rfl, ho2, hb2⟩
  have q2 := hb1.trans (hb2.mono hb1.size)
  obtain rfl := ho2.bs16 (HS.out 0 (by omega))
  have hB2 : Bs w2 a2 16 c2 (blkS F b 0) := ho2.toBs
  clear ho1 ho2 hb1 hb2 C0
  go_wp2_with fail
  go_loopw [7, 8] (fun v i wr => ∃ (r : Nat) (ax : Option Addr) (cx : Nat), r < 14 ∧ i = .int .i64 ((r : Int) + 1) ∧ v = .slice ax 16 cx ∧ Bs wr ax 16 cx (blkS F b r) ∧ Below w.heap.size w wr) (fun _ i _ => 14 - (intOf i).toNat)
  case atStart => exact ⟨0, a2, c2, by omega, rfl, rfl, hB2, q2⟩
  case round =>
    clear hB2 q2
    obtain ⟨r, ax, cx, hr, rfl, rfl, hB, hbl⟩ := hrel
    by_cases hlt : r < 13
    · have h1 : (r : Int) + 1 < 14 := by omega
      have HN : Hid (blkS F b (r + 1) = xorL (mixL (shf (blkS F b r))) (rk F (r + 1))) := by show _ = _; rw [blkS, if_pos (by omega)]
      go_wp2_with fail
      refine (rShifted wr (hX.below hbl (Nat.le_refl _)) hB).mono ?_
      rintro e w3 ⟨a3, m3, c3, rfl, ho3, hb3⟩
      have q3 := hbl.trans (hb3.mono hbl.size)
      obtain rfl := ho3.bs16 (shf_length _)
      go_wp2_with fail
      refine (rMixed w3 ho3.toBs).mono ?_
      rintro e w4 ⟨a4, m4, c4, rfl, ho4, hb4⟩
      have q4 := q3.trans (hb4.mono q3.size)
      obtain rfl := ho4.bs16 (mixL_length _)
      have CR : Hid (Calls Tryz.prog 81 #[.slice wa 60 wc', .int .i64 ((r : Int) + 1)] w4 (Gives w4 (rk F (r + 1)))) := by
        have := CK.out w4 (r + 1) (hW.below q4 (Nat.le_refl _)) (by omega)
        rw [show ((r + 1 : Nat) : Int) = (r : Int) + 1 from by omega] at this
        exact this
      go_wp2_with fail
      refine CR.out.mono ?_
      rintro e w5 ⟨a5, m5, c5, rfl, ho5, hb5⟩
      have q5 := q4.trans (hb5.mono q4.size)
      obtain rfl := ho5.bs16 (HR.out (r + 1) (by omega))
      go_wp2_with fail
      refine (rBoth w5 (ho4.toBs.below hb5 (Nat.le_refl _)) ho5.toBs (by omega) (by omega)).mono ?_
      rintro e w6 ⟨a6, m6, c6, rfl, ho6, hb6⟩
      have q6 := q5.trans (hb6.mono q5.size)
      rw [← HN.out] at ho6
      obtain rfl := ho6.bs16 (HS.out (r + 1) (by omega))
      have hB6 := ho6.toBs
      clear ho3 ho4 ho5 ho6 hb3 hb4 hb5 hb6 q3 q4 q5 hB hbl CR
      go_wp2_with fail
      go_roundw
      case rel => exact ⟨r + 1, a6, c6, by omega, by go_num, rfl, hB6, q6⟩
      case measure => simp [intOf]; omega
    · obtain rfl : r = 13 := by omega
      have HN : Hid (aesL F b = xorL (shf (blkS F b 13)) (rk F 14)) := rfl
      go_wp2_with fail
      refine (rShifted wr (hX.below hbl (Nat.le_refl _)) hB).mono ?_
      rintro e w3 ⟨a3, m3, c3, rfl, ho3, hb3⟩
      have q3 := hbl.trans (hb3.mono hbl.size)
      obtain rfl := ho3.bs16 (shf_length _)
      have CR : Hid (Calls Tryz.prog 81 #[.slice wa 60 wc', .int .i64 14] w3 (Gives w3 (rk F 14))) := CK.out w3 14 (hW.below q3 (Nat.le_refl _)) (by omega)
      go_wp2_with fail
      refine CR.out.mono ?_
      rintro e w5 ⟨a5, m5, c5, rfl, ho5, hb5⟩
      have q5 := q3.trans (hb5.mono q3.size)
      obtain rfl := ho5.bs16 (HR.out 14 (by omega))
      go_wp2_with fail
      refine (rBoth w5 (ho3.toBs.below hb5 (Nat.le_refl _)) ho5.toBs (by omega) (by omega)).mono ?_
      rintro e w6 ⟨a6, m6, c6, rfl, ho6, hb6⟩
      have q6 := q5.trans (hb6.mono q5.size)
      rw [← HN.out] at ho6
      go_wp2_with fail
      go_ret
      exact Gives.mk (ho6.mono q5.size) q6

end Go.Proofs.YtjpejheipkfanaaGreatDoor

/-
  The contract of the reference's Put: the lowest bytes of a number, the highest first, in memory of the call's own. Conditions: the number fits 64 bits; the size is at most 1000000.
-/
namespace Go.Proofs.YtjpejheipkfanaaGreatDoor
open Go.RowKit

theorem put_rec {n s : Int} {w : World} {base : Nat} {v : Value} (h1 : 1 ≤ s) (h0 : 0 ≤ n) (h : Own w base v (putL (n / 256).toNat (s - 1).toNat ++ [UInt8.ofNat (n % 256).toNat])) : Own w base v (putL n.toNat s.toNat) := by
  have e : s.toNat = (s - 1).toNat + 1 := by omega
  rw [e, putL]
  have e2 : (n / 256).toNat = n.toNat / 256 := by omega
  have e3 : UInt8.ofNat n.toNat = UInt8.ofNat (n % 256).toNat := by
    apply UInt8.toNat_inj.1
    rw [UInt8.toNat_ofNat', UInt8.toNat_ofNat']
    omega
  rw [e3, ← e2]
  exact h

set_option maxHeartbeats 400000 in
theorem rPut (k : Nat) : ∀ (n s : Int) (w : World), s ≤ k → k ≤ 1000000 → 0 ≤ n → n ≤ 18446744073709551615 → -9223372036854775808 ≤ s →
    Calls Tryz.prog 40 #[.int .u64 n, .int .i64 s] w (Gives w (putL n.toNat s.toNat)) := by
  induction k with
  | zero =>
    intro n s w hs _ hn0 hn hlo
    have e : s.toNat = 0 := by omega
    rw [e]
    have h1 : s < 1 := by omega
    clear e
    go_enter Tryz.func40, Tryz.ntmps40
    go_wp2_with fail
    go_ret
    exact Gives.mk (Own.nil _ _) (Below.refl _ _)
  | succ k ih =>
    intro n s w hs hk hn0 hn hlo
    by_cases h1 : s < 1
    · have e : s.toNat = 0 := by omega
      rw [e]
      clear e ih
      go_enter Tryz.func40, Tryz.ntmps40
      go_wp2_with fail
      go_ret
      exact Gives.mk (Own.nil _ _) (Below.refl _ _)
    · have IH := ih (n / 256) (s - 1) w (by omega) (by omega) (by omega) (by omega) (by omega)
      clear ih
      go_enter Tryz.func40, Tryz.ntmps40
      go_wp2_with fail
      refine IH.mono ?_
      rintro e w1 ⟨a1, m1, c1, rfl, hown, hbel⟩
      have hz : (putL (n / 256).toNat (s - 1).toNat).length + [UInt8.ofNat (n % 256).toNat].length ≤ 1000000000 := by rw [putL_length]; simp; omega
      have hsz : w.heap.size ≤ w1.heap.size := hbel.size
      clear IH
      go_wp2_with (at_builtin; refine wpList_app _ rfl _ _ rfl w.heap.size _ _ rfl (hown.below (below_alloc _ _) (Nat.le_refl _)) _ 1 1 [UInt8.ofNat (n % 256).toNat] rfl (Bs.one _ _ (by omega) (by omega)) hz (by simp; omega) ?_; intro v2 w2 hown2 hbel2)
      go_ret
      exact Gives.mk (put_rec h1 hn0 hown2) ((hbel.alloc hsz _).trans hbel2)

end Go.Proofs.YtjpejheipkfanaaGreatDoor

/-
  The contract of layer 6's reference's counter: the sealed block of a nonce and a number. Conditions: the key's parts lie where its slices lead; a nonce of 12 bytes; a number below 2^32.
-/
namespace Go.Proofs.YtjpejheipkfanaaGreatDoor
open Go.RowKit

/-- A key of the reference, in its parts: the box, the words, the element's bits. -/
structure KeyR (w : World) (K : List UInt8) (a1 a2 a3 : Option Addr) (c1 c2 c3 : Nat) : Prop where
  box : Bs w a1 256 c1 boxT
  words : Bss w a2 60 c2 (wdsL K)
  elem : Bo w a3 128 c3 (fb (hKey K))
theorem KeyR.below {w w' : World} {K : List UInt8} {a1 a2 a3 : Option Addr} {c1 c2 c3 : Nat} (h : KeyR w K a1 a2 a3 c1 c2 c3) (hb : Below w.heap.size w w') : KeyR w' K a1 a2 a3 c1 c2 c3 :=
  ⟨h.box.below hb (Nat.le_refl _), h.words.below hb (Nat.le_refl _), h.elem.below hb (Nat.le_refl _)⟩
def kv (a1 a2 a3 : Option Addr) (c1 c2 c3 : Nat) : Value := .agg #[.slice a1 256 c1, .slice a2 60 c2, .slice a3 128 c3]

set_option maxRecDepth 100000 in
set_option maxHeartbeats 2000000 in
theorem rCounter (w : World) {K nonce : List UInt8} {a1 a2 a3 an : Option Addr} {c1 c2 c3 cn : Nat} (hk : KeyR w K a1 a2 a3 c1 c2 c3) (hK : K.length = 240) (hn : Bs w an 12 cn nonce) (n : Nat) (hN : n < 4294967296) :
    Calls Tryz.prog 74 #[kv a1 a2 a3 c1 c2 c3, .slice an 12 cn, .int .i64 (n : Int)] w (Gives w (ctrK K nonce n)) := by
  have HNL : Hid (nonce.length = 12) := hn.len
  have HPL : Hid ((putL n 4).length = 4) := putL_length 4 n
  have CP : Hid (∀ w, Calls Tryz.prog 40 #[.int .u64 (n : Int), .int .i64 4] w (Gives w (putL n 4))) := fun w => by
    have := rPut 4 (n : Int) 4 w (by omega) (by omega) (by omega) (by omega) (by omega)
    rw [Int.toNat_natCast] at this
    exact this
  have i1 : IntKind.u64.wrap (n : Int) = (n : Int) := by rw [IntKind.wrap_u64]; omega
  have i2 : (n : Int) % 18446744073709551616 = (n : Int) := by omega
  have CB : Hid (∀ w a m c, KeyR w K a1 a2 a3 c1 c2 c3 → Bs w a m c (nonce ++ putL n 4) → Calls Tryz.prog 62 #[.slice a1 256 c1, .slice a2 60 c2, .slice a m c] w (Gives w (ctrK K nonce n))) := fun w a m c h hb => by
    have hm : m = 16 := by rw [← hb.len, List.length_append, HNL.out, putL_length]
    subst hm
    exact rBlock w h.box hK h.words hb
  generalize ctrK K nonce n = X at *
  unfold kv
  go_enter Tryz.func74, Tryz.ntmps74
  go_upto_region 2 with fail
  obtain ⟨W, hW⟩ : ∃ W, W = w.alloc (.cells #[.slice a1 256 c1, .slice a2 60 c2, .slice a3 128 c3] 92) := ⟨_, rfl⟩
  rw [← hW]
  have d0 : Blk W w.heap.size [.slice a1 256 c1, .slice a2 60 c2, .slice a3 128 c3] 92 := by rw [hW]; exact Blk.new w _ _
  have q0 : Below w.heap.size w W := by rw [hW]; exact below_alloc w _
  clear hW
  have hn0 := hn.below q0 (Nat.le_refl _)
  go_wp2_with (at_builtin; go_must (refine wpList_app W rfl (.tmp 8) (.tmp 9) rfl W.heap.size _ [] rfl (Own.nil _ _) an 12 cn nonce rfl hn0 (by rw [HNL.out]; decide) (Nat.le_refl _) ?_); rw [List.nil_append]; intro v1 w1 ho1 hb1)
  have d1 := d0.below hb1 d0.lt
  have hkW := hk.below q0
  have q1 := q0.trans (hb1.mono q0.size)
  have k0 := d1.cell 0
  have k1 := d1.cell 1
  simp only [List.getElem?_cons_zero, List.getElem?_cons_succ] at k0 k1
  have hwl := d0.lt
  have hl := d1.lt
  have hr : nonce.length + (putL n 4).length ≤ 1000000000 := by rw [HNL.out, HPL.out]; omega
  clear d0 hn0
  go_region_held3 (fun w' => w'.cell? ⟨w.heap.size, 0, none⟩ = some (.slice a1 256 c1) ∧ w'.cell? ⟨w.heap.size, 1, none⟩ = some (.slice a2 60 c2))
    (first | (exact ⟨u0, u1⟩) | (exact ⟨t0, t1⟩) | (exact ⟨s0, s1⟩) | (exact ⟨k0, k1⟩) | go_keep)
    (first
    | (go_at_call 62; go_must (refine (CB.out w3 _ _ _ hk3 ho3.toBs).mono ?_); rintro e w4 ⟨a4, m4, c4, rfl, ho4, hb4⟩; have q4 := q3.trans (hb4.mono q3.size); have u0 := (hb4.cell (p := ⟨w.heap.size, 0, none⟩) l3).trans t0; have u1 := (hb4.cell (p := ⟨w.heap.size, 1, none⟩) l3).trans t1)
    | (go_at_call 40; go_must (refine (CP.out w1.drew).mono ?_); rintro e w2 ⟨a2', m2', c2', rfl, ho2, hb2⟩; have hB2 := ho2.toBs; obtain ⟨bb, bo', rfl, _, _⟩ := hB2.at (by have := hB2.len; have := HPL.out; omega); have q2 := q1.drew.trans (hb2.mono q1.size); have s0 := (hb2.cell (p := ⟨w.heap.size, 0, none⟩) hl).trans k0; have s1 := (hb2.cell (p := ⟨w.heap.size, 1, none⟩) hl).trans k1; have hob := ho1.below (Below.trans (Below.refl _ w1).drew hb2) (Nat.le_refl _); have p2 : Below W.heap.size W w2 := hb1.drew.trans (hb2.mono hb1.size); have l2 : w.heap.size < w2.heap.size := Nat.lt_of_lt_of_le hl hb2.size)
    | (refine step_app rfl (.tmp 15) (.tmp 18) rfl W.heap.size _ _ rfl hob ⟨bb, bo', none⟩ m2' c2' _ rfl hB2 hr (Nat.le_trans hb1.size hb2.size) ?_; intro v3 w3 ho3 hb3; obtain ⟨a3', m3', c3', rfl, _⟩ := ho3.bs3; have q3 := q2.trans (hb3.mono q0.size); have t0 := (hb3.cell (p := ⟨w.heap.size, 0, none⟩) hwl).trans s0; have t1 := (hb3.cell (p := ⟨w.heap.size, 1, none⟩) hwl).trans s1; have l3 : w.heap.size < w3.heap.size := Nat.lt_of_lt_of_le l2 hb3.size; have hk3 := hkW.below (p2.trans hb3)))
  go_wp2
  go_ret
  exact Gives.mk (ho4.mono q3.size) q4

end Go.Proofs.YtjpejheipkfanaaGreatDoor

/-
  append of bytes that tells which block alone was written. No condition; no statement of the seat is proved here.
-/
namespace Go.Proofs.YtjpejheipkfanaaGreatDoor
open Go.RowKit

/-- 'append(out, src...)', out the call's own, src whatever slice of bytes; nothing old but out's own block is written. -/
theorem wpList_appG {ops : Array Oper} {rest : List Oper} {o : Oper} {a : Act} {Q : Exit → Act → World → Prop} (w : World) (hgd : o.guard = none) (s x : Operand)
    (ho : o.op = Op.call { callee := Callee.builtin Builtin.append, args := #[s, x], argTypes := #[32, 32] }) (base : Nat) (v : Value) (l : List UInt8) (hs : a.eval s = v) (hown : Own w base v l)
    (ao : Option Addr) (m c : Nat) (news : List UInt8) (hx : a.eval x = .slice ao m c) (hb : Bs w ao m c news) (hz : l.length + news.length ≤ 1000000000) (hbase : base ≤ w.heap.size)
    (h : ∀ v' w', Own w' base v' (l ++ news) → w.grownBy w' v.ownBlock → wpList Tryz.prog ops Q rest (a.put o.dst v') w') : wpList Tryz.prog ops Q (o :: rest) a w := by
  obtain ⟨i0, hi, hz0, hz1, hz2⟩ := info_parts info5
  have hl := hb.len
  cases ao with
  | none =>
    have hc := hb.2.2.2.1 rfl
    have hcap := hb.cap
    have e : news = [] := List.length_eq_zero_iff.1 (by omega)
    subst e
    obtain rfl : m = 0 := by omega
    subst hc
    refine wpList_append_own_none hgd s x 32 ho base 5 i0 1 Tryz.underlying32 hi v _ _ hs hown hx ?_
    refine h v w ?_ ⟨rfl, rfl, rfl, Nat.le_refl _, fun _ _ _ => rfl⟩
    rw [List.append_nil]
    exact hown
  | some ad =>
    refine wpList_append_own w hgd s x 32 ho base 5 i0 (.int .u8 0) 1 1 Tryz.underlying32 hi hz0 hz1 hz2 rfl (by decide) v _ _ hs hown ad m c (cs news) hx (by rw [cs_length]; omega) hb.news cs_one (by unfold maxLen; omega) (by omega) hbase ?_
    intro v' w' ho' hg _
    refine h v' w' ?_ hg
    unfold Own
    rw [cs_append, List.length_append, hl]
    exact ho'
theorem Own.lt {w : World} {base : Nat} {v : Value} {l : List UInt8} (h : Own w base v l) : ∀ k, v.ownBlock = some k → k < w.heap.size := fun k hk => (World.ownsRow.lt h k hk).2

end Go.Proofs.YtjpejheipkfanaaGreatDoor

/-
  append of bytes as one step of a region that draws its order, told which block alone was written, and where the answer lies. No condition; no statement of the seat is proved here.
-/
namespace Go.Proofs.YtjpejheipkfanaaGreatDoor
open Go.RowKit

/-- Where append's answer lies: in the same block, or in a new one. -/
theorem own_where {w : World} {base : Nat} {v : Value} {l : List UInt8} (hown : Own w base v l) {ad : Addr} {m c : Nat} {news : List UInt8} (hb : Bs w (some ad) m c news) (hm : 0 < m) (hz : l.length + news.length ≤ 1000000000) {ty : TypeId} {v' : Value} {w' : World}
    (hr : (Builtin.append_ #[32, 32] ty #[v, .slice (some ad) m c]).run Tryz.prog w = .ok v' w') : v'.ownBlock = v.ownBlock ∨ v'.ownBlock = some w.heap.size := by
  obtain ⟨i0, hi, hz0, hz1, hz2⟩ := info_parts info5
  have hl := hb.len
  have hsz : (Value.int .u8 0).cells.size = i0.size := by rw [hz1]; rfl
  have hln : (cs news).length = m * i0.size := by rw [cs_length, hz1]; omega
  rcases hown.2 with ⟨rfl, h0⟩ | ⟨g, cap, cur, rfl, hbg, hg, hnc, hcm, hcs, htake⟩
  · have := run_append_nil (P := Tryz.prog) w 32 ty 5 i0 (.int .u8 0) Tryz.underlying32 hi hz0 ad m c (cs news) hln hb.news hm (by omega) (by rw [hz2]; omega)
    rw [this] at hr
    cases hr
    exact Or.inr rfl
  · by_cases hroom : l.length + m ≤ cap
    · have := run_append_room (P := Tryz.prog) w 32 ty 5 i0 Tryz.underlying32 hi g l.length cap cur hg ad m c (cs news) hln hb.news cs_one hroom (by rw [hln, hz1, hcs]; omega)
      rw [this] at hr
      cases hr
      exact Or.inl rfl
    · have := run_append_grow (P := Tryz.prog) w 32 ty 5 i0 (.int .u8 0) Tryz.underlying32 hi hz0 ⟨g, 0, none⟩ l.length cap (cs l) (by rw [hz1]; exact hown.1) (World.ownsRow.cells hown (g := g) rfl) ad m c (cs news) hln hb.news (by omega) (by omega) (growslice_fits (by omega) (by rw [hz2]; omega))
      rw [this] at hr
      cases hr
      exact Or.inr rfl

/-- append as one step of a region that draws its order. -/
theorem step_appX {ops : Array Oper} {o : Oper} {a : Act} {w : World} {K : Act → World → Prop} {Q : Exit → Act → World → Prop} {E : Prop} (hgd : o.guard = none) (s x : Operand)
    (ho : o.op = Op.call { callee := Callee.builtin Builtin.append, args := #[s, x], argTypes := #[32, 32] }) (base : Nat) (v : Value) (l : List UInt8) (hs : a.eval s = v) (hown : Own w base v l)
    (ad : Addr) (m c : Nat) (news : List UInt8) (hx : a.eval x = .slice (some ad) m c) (hb : Bs w (some ad) m c news) (hm : 0 < m) (hz : l.length + news.length ≤ 1000000000) (hbase : base ≤ w.heap.size)
    (h : ∀ v' w', Own w' base v' (l ++ news) → w.grownBy w' v.ownBlock → (v'.ownBlock = v.ownBlock ∨ v'.ownBlock = some w.heap.size) → K (a.put o.dst v') w') : if Region.wanted o (yielded ops a.tmps) = true then Oper.wp Tryz.prog o a w K Q else E := by
  have hw : Region.wanted o (yielded ops a.tmps) = true := by simp [Region.wanted, hgd]
  rw [if_pos hw]
  obtain ⟨i0, hi, hz0, hz1, hz2⟩ := info_parts info5
  have hl := hb.len
  obtain ⟨v', w', hr, h2, h3, _⟩ := run_append_own (P := Tryz.prog) w base 32 o.type 5 i0 (.int .u8 0) 1 1 Tryz.underlying32 hi hz0 hz1 hz2 rfl (by decide) v _ _ hown ad m c (cs news) (by rw [cs_length]; omega) hb.news cs_one (by unfold maxLen; omega) (by omega) hbase
  have hwh := own_where hown hb hm hz hr
  have ho2 : Own w' base v' (l ++ news) := by
    unfold Own
    rw [cs_append, List.length_append, hl]
    exact h2
  have hk := h v' w' ho2 h3 hwh
  unfold Oper.wp
  simp [execOp, ho, resolve, invoke, builtin, hs, hx, hr, Result.andThen]
  rw [Oper.upon_value]
  exact hk

end Go.Proofs.YtjpejheipkfanaaGreatDoor

/-
  The contract of layer 6's reference's stream: a text under the blocks of a nonce. Conditions: the key's parts lie where its slices lead; a nonce of 12 bytes; a text of at most 1000.
-/
namespace Go.Proofs.YtjpejheipkfanaaGreatDoor
open Go.RowKit

theorem Bs.grownBy {w w' : World} {row : Option Nat} {a : Option Addr} {n c : Nat} {l : List UInt8} (h : Bs w a n c l) (hg : w.grownBy w' row) (hr : ∀ x, a = some x → row ≠ some x.block) : Bs w' a n c l := by
  refine ⟨h.1, h.2.1, h.2.2.1, h.2.2.2.1, fun i hi => ?_⟩
  obtain ⟨b, o, ha, hc⟩ := h.2.2.2.2 i hi
  exact ⟨b, o, ha, hg.cell hc (fun e => hr _ ha e.symm)⟩
theorem xorT {l m : List UInt8} {t : Nat} (h1 : t < l.length) (h2 : t < m.length) : (xorL l m).take (t + 1) = (xorL l m).take t ++ [l.getD t 0 ^^^ m.getD t 0] := by
  have h3 : t < (xorL l m).length := by unfold xorL; rw [List.length_zipWith]; omega
  rw [take_snoc h3]
  congr 2
  have := xorG h1 h2
  rw [List.getElem?_eq_getElem h3] at this
  exact Option.some.inj this
theorem quo16 (k : Nat) : ((16 * k : Nat) : Int).tdiv 16 = (k : Int) := by
  rw [Int.tdiv_eq_ediv_of_nonneg (by omega)]
  omega

set_option maxRecDepth 100000 in
set_option maxHeartbeats 4000000 in
theorem rStream (w : World) {K nonce l : List UInt8} {a1 a2 a3 an ab : Option Addr} {c1 c2 c3 cn nb cb : Nat} (hk : KeyR w K a1 a2 a3 c1 c2 c3) (hK : K.length = 240) (hn : Bs w an 12 cn nonce) (hB : Bs w ab nb cb l) (hz : nb ≤ 1000) :
    Calls Tryz.prog 57 #[kv a1 a2 a3 c1 c2 c3, .slice an 12 cn, .slice ab nb cb] w (Gives w (strL K nonce l)) := by
  have HL : Hid (l.length = nb) := hB.len
  have HNL : Hid (nonce.length = 12) := hn.len
  have CC : Hid (∀ (w : World) (k : Nat), KeyR w K a1 a2 a3 c1 c2 c3 → Bs w an 12 cn nonce → k ≤ 1000 → Calls Tryz.prog 74 #[.agg #[.slice a1 256 c1, .slice a2 60 c2, .slice a3 128 c3], .slice an 12 cn, .int .i64 (2 + (k : Int))] w (Gives w (ctrK K nonce (2 + k)))) := fun w k h1 h2 h3 => by
    have := rCounter w h1 hK h2 (2 + k) (by omega)
    rw [show ((2 + k : Nat) : Int) = 2 + (k : Int) from by omega] at this
    exact this
  have HCL : Hid (∀ n, (ctrK K nonce n).length = 16) := fun n => ctrK_length hK HNL.out n
  unfold kv
  go_enter Tryz.func57, Tryz.ntmps57
  go_wp2_with fail
  obtain ⟨W, hW⟩ : ∃ W, W = w.alloc (.cells #[.slice a1 256 c1, .slice a2 60 c2, .slice a3 128 c3] 92) := ⟨_, rfl⟩
  rw [← hW]
  have d0 : Blk W w.heap.size [.slice a1 256 c1, .slice a2 60 c2, .slice a3 128 c3] 92 := by rw [hW]; exact Blk.new w _ _
  have q0 : Below w.heap.size w W := by rw [hW]; exact below_alloc w _
  have hsW : w.heap.size ≤ W.heap.size := q0.size
  clear hW
  have hkW := hk.below q0
  have hnW := hn.below q0 (Nat.le_refl _)
  have hBW := hB.below q0 (Nat.le_refl _)
  go_loopw [7, 8, 9, 10] (fun v i _ _ wr => ∃ k j : Nat, j = 16 * k ∧ j < nb + 16 ∧ i = .int .i64 (j : Int) ∧ Own wr W.heap.size v (strm K nonce l k) ∧ Below W.heap.size W wr) (fun _ i _ _ _ => nb + 16 - (intOf i).toNat)
  case atStart => exact ⟨0, 0, rfl, by omega, rfl, Own.nil _ _, Below.refl _ _⟩
  case round =>
    obtain ⟨k, j, hj, hjn, rfl, ho, hb⟩ := hrel
    rename World => wo
    by_cases hlt : j < nb
    · have j0 : (0 : Int) ≤ (j : Int) := by omega
      have j1 : (j : Int) < (nb : Int) := by omega
      have jm : (nb : Int) ≤ 1000 := by omega
      have j2 : (j : Int).tdiv 16 = (k : Int) := by rw [hj]; exact quo16 k
      have j3 : (j : Int) / 16 = (k : Int) := by omega
      have HJ : Hid (j = 16 * k) := hj
      have hk1 : k ≤ 1000 := by omega
      have k0 : (0 : Int) ≤ (k : Int) := by omega
      have k1 : (k : Int) ≤ 1000 := by omega
      have d1 := d0.below hb d0.lt
      have e0 := d1.cell 0
      have e1 := d1.cell 1
      have e2 := d1.cell 2
      simp only [List.getElem?_cons_zero, List.getElem?_cons_succ] at e0 e1 e2
      have HT : Hid (∀ kk, u7.ownBlock = some kk → kk < wo.heap.size) := fun kk hh => Own.lt ho kk hh
      clear hj
      go_wp2_with (go_at_call 74; go_must (refine (CC.out wo k (hkW.below hb) (hnW.below hb (Nat.le_refl _)) hk1).mono ?_); rintro e w1 ⟨ax, mx, cx, rfl, hox, hbx⟩)
      have hBx := hox.toBs
      have hmx : mx = 16 := by rw [← hBx.len]; exact HCL.out _
      subst hmx
      obtain ⟨bx, ox, rfl, hbl, hcx⟩ := hBx.at (by omega)
      have hbx0 : wo.heap.size ≤ bx := (World.ownsRow.lt hox bx rfl).1
      have ho1 := ho.below hbx (Nat.le_refl _)
      have q1 := hb.trans (hbx.mono hb.size)
      have hne1 : ∀ kk, u7.ownBlock = some kk → kk ≠ bx := fun kk hh => by have := HT.out kk hh; omega
      have HN : Hid (strm K nonce l (k + 1) = strm K nonce l k ++ xorL ((l.drop j).take 16) (ctrK K nonce (2 + k))) := by show _ = _; rw [HJ.out]; rfl
      have HCX : Hid ((ctrK K nonce (2 + k)).length = 16) := HCL.out _
      have HSL : Hid ((strm K nonce l k).length ≤ 1100) := by
        show _ ≤ _
        rw [strm_is hK HNL.out, List.length_map, List.length_range, HL.out]
        omega
      have HCH : Hid (((l.drop j).take 16).length = min 16 (nb - j)) := by show _ = _; rw [List.length_take, List.length_drop, HL.out]
      have HCD : Hid (∀ t, t < 16 → ((l.drop j).take 16).getD t 0 = l.getD (j + t) 0) := fun t ht => by
        rw [List.getD_eq_getElem?_getD, List.getElem?_take_of_lt ht, List.getElem?_drop, List.getD_eq_getElem?_getD]
      generalize strm K nonce l k = A at *
      generalize ctrK K nonce (2 + k) = X at *
      generalize hC : (l.drop j).take 16 = C at *
      have hox' := hBx
      clear hC HT ho hox hbx hBx hcx d1 e0 e1 e2
      obtain ⟨bb, ob, rfl, hbb, hcb⟩ := hBW.at (by omega)
      go_loopw [7, 10] (fun v jj wr => ∃ t p : Nat, t ≤ 16 ∧ p ≤ nb ∧ p = j + t ∧ jj = .int .i64 (p : Int) ∧ Own wr W.heap.size v (A ++ (xorL C X).take t) ∧ (∀ kk, v.ownBlock = some kk → kk ≠ bx) ∧ bx < wr.heap.size ∧ Bs wr (some ⟨bx, ox, none⟩) 16 cx X ∧ Below W.heap.size W wr) (fun _ jj _ => j + 16 - (intOf jj).toNat)
      case atStart => exact ⟨0, j, by omega, by omega, rfl, rfl, by rw [List.take_zero, List.append_nil]; exact ho1, hne1, hbl, hox', q1⟩
      case round =>
        clear ho1 q1 hne1 hbl
        obtain ⟨t, p, ht, htn, hp, rfl, ho, hne, hbl, hBx, hb⟩ := hrel
        by_cases hin : t < 16 ∧ p < nb
        · obtain ⟨t1, t2⟩ := hin
          have p0 : (0 : Int) ≤ (p : Int) := by omega
          have p1 : (p : Int) < (nb : Int) := by omega
          have p2 : (p : Int) < (j : Int) + 16 := by omega
          have s1 : (p : Int) - (j : Int) = (t : Int) := by omega
          have s2 : IntKind.i64.wrap (t : Int) = (t : Int) := by rw [IntKind.wrap_i64]; omega
          have s3 : (0 : Int) ≤ (t : Int) := by omega
          have s4 : (t : Int) < 16 := by omega
          have e1 : wr.cell? ⟨bb, ob + p, none⟩ = some (.int .u8 (bt l p)) := by rw [hb.cell (p := ⟨bb, ob + p, none⟩) hbb]; exact hcb p t2
          have e2 : wr.cell? ⟨bx, ox + t, none⟩ = some (.int .u8 (bt X t)) := by
            obtain ⟨_, _, ex, hc⟩ := hBx.2.2.2.2 t t1
            simp only [Option.some.injEq, Addr.mk.injEq, and_true] at ex
            obtain ⟨rfl, rfl⟩ := ex
            exact hc
          have HS := xorT (l := C) (m := X) (t := t) (by rw [HCH.out]; omega) (by rw [HCX.out]; exact t1)
          rw [HCD.out t t1, ← hp] at HS
          unfold bt at e1 e2
          have hx := xor_u8 (l.getD p 0) (X.getD t 0)
          generalize l.getD p 0 = y1 at *
          generalize X.getD t 0 = y2 at *
          generalize y1 ^^^ y2 = z at *
          have HS' : Hid ((xorL C X).take (t + 1) = (xorL C X).take t ++ [z]) := HS
          have HP : Hid (p = j + t) := hp
          have hsz := hb.size
          have hr : (A ++ (xorL C X).take t).length + [z].length ≤ 1000000000 := by
            have h1 := HSL.out
            have h2 : ((xorL C X).take t).length ≤ 16 := Nat.le_trans (List.length_take_le _ _) ht
            rw [List.length_append, List.length_singleton]
            omega
          clear HS hp
          obtain ⟨L, hL⟩ : ∃ L, L = A ++ (xorL C X).take t := ⟨_, rfl⟩
          rw [← hL] at ho hr
          have HLL : Hid (A ++ (xorL C X).take t = L) := hL.symm
          clear hL
          go_wp2
          go_region_law (refine step_appX rfl (.tmp 36) (.tmp 48) rfl W.heap.size u7 L rfl (ho.below (below_alloc _ _).drew (Nat.le_refl _)) _ 1 1 [z] rfl (Bs.made wr [z] #[.int .u8 (z.toNat : Int)] rfl (by simp)).drew (by omega) hr (by simp; omega) ?_; intro v2 w2 ho2 hg2 hw2)
          all_goals
            have hbA : Below W.heap.size W (wr.alloc (.cells #[.int .u8 (z.toNat : Int)] 5)).drew := (hb.alloc hsz _).drew
            have hb2 : Below W.heap.size W w2 := hbA.grown hg2 (by simp; omega) (fun q hq => ho.size q hq)
            have hBx2 : Bs w2 (some ⟨bx, ox, none⟩) 16 cx X := (hBx.below (below_alloc wr (.cells #[.int .u8 (z.toNat : Int)] 5)).drew (Nat.le_refl _)).grownBy hg2 (fun q hq hh => by cases hq; exact hne bx hh rfl)
            have hne2 : ∀ kk, v2.ownBlock = some kk → kk ≠ bx := fun kk hh => by
              rcases hw2 with e | e
              · exact hne kk (by rw [← e]; exact hh)
              · rw [e] at hh
                have : (wr.alloc (.cells #[.int .u8 (z.toNat : Int)] 5)).drew.heap.size = kk := Option.some.inj hh
                have hs : (wr.alloc (.cells #[.int .u8 (z.toNat : Int)] 5)).drew.heap.size = wr.heap.size + 1 := World.size_alloc _ _
                omega
            have hs2 := hg2.size
            rw [show (wr.alloc (.cells #[.int .u8 (z.toNat : Int)] 5)).drew.heap.size = wr.heap.size + 1 from World.size_alloc _ _] at hs2
            clear hg2 hw2 hbA
            go_wp2
            go_roundw
            case rel => exact ⟨t + 1, p + 1, by omega, by omega, by have := HP.out; omega, by go_num, by rw [HS'.out, ← List.append_assoc, HLL.out]; exact ho2, hne2, by omega, hBx2, hb2⟩
            case measure => have := HP.out; simp [intOf]; omega
        · have HF : Hid (A ++ (xorL C X).take t = strm K nonce l (k + 1)) := by
            show _ = _
            rw [HN.out, List.take_of_length_le]
            unfold xorL
            rw [List.length_zipWith, HCH.out, HCX.out]
            omega
          rw [HF.out] at ho
          by_cases h16 : (p : Int) < (j : Int) + 16
          · have h17 : ¬ (p : Int) < (nb : Int) := by omega
            clear hp
            go_wp2_with fail
            go_roundw
            case rel => exact ⟨k + 1, j + 16, by have := HJ.out; omega, by omega, by go_num, ho, hb⟩
            case measure => simp [intOf]; omega
          · clear hp
            go_wp2_with fail
            go_roundw
            case rel => exact ⟨k + 1, j + 16, by have := HJ.out; omega, by omega, by go_num, ho, hb⟩
            case measure => simp [intOf]; omega
    · have HF : Hid (strm K nonce l k = strL K nonce l) := by
        show _ = _
        unfold strL
        rw [HL.out]
        congr 1
        omega
      rw [HF.out] at ho
      clear hj
      go_wp2_with fail
      go_ret
      exact Gives.mk (ho.mono hsW) (q0.trans (hb.mono hsW))

end Go.Proofs.YtjpejheipkfanaaGreatDoor

/-
  A key of the reference in a region that draws its order: its parts, and all of it, out of its variable. No condition; no statement of the seat is proved here.
-/
namespace Go.Proofs.YtjpejheipkfanaaGreatDoor
open Go.RowKit

theorem ans_cB {ops : Array Oper} {S : World → Prop} {oi : Oper} {a : Act} (x : Operand) (ho : oi.op = .load 90 x) (hw : Region.wanted oi (yielded ops a.tmps) = true) (g o : Nat) (v : Value) (hx : a.eval x = .pointer (some ⟨g, o, none⟩)) (hc : ∀ w, S w → w.cell? ⟨g, o, none⟩ = some v) : Ans Tryz.prog ops S oi v a := by
  refine ans_plain hw fun w hS => ?_
  have c := hc w hS
  unfold execOp
  simp only [ho, hx]
  go_simp
theorem ans_c8 {ops : Array Oper} {S : World → Prop} {oi : Oper} {a : Act} (x : Operand) (ho : oi.op = .load 32 x) (hw : Region.wanted oi (yielded ops a.tmps) = true) (g o : Nat) (v : Value) (hx : a.eval x = .pointer (some ⟨g, o, none⟩)) (hc : ∀ w, S w → w.cell? ⟨g, o, none⟩ = some v) : Ans Tryz.prog ops S oi v a := by
  refine ans_plain hw fun w hS => ?_
  have c := hc w hS
  unfold execOp
  simp only [ho, hx]
  go_simp
theorem ans_cS {ops : Array Oper} {S : World → Prop} {oi : Oper} {a : Act} (x : Operand) (ho : oi.op = .load 63 x) (hw : Region.wanted oi (yielded ops a.tmps) = true) (g o : Nat) (v : Value) (hx : a.eval x = .pointer (some ⟨g, o, none⟩)) (hc : ∀ w, S w → w.cell? ⟨g, o, none⟩ = some v) : Ans Tryz.prog ops S oi v a := by
  refine ans_plain hw fun w hS => ?_
  have c := hc w hS
  unfold execOp
  simp only [ho, hx]
  go_simp
/-- The address of a key's part. -/
theorem ans_at {ops : Array Oper} {S : World → Prop} {oi : Oper} {a : Act} (x : Operand) (i : Nat) (hi : i < 3) (ho : oi.op = .fieldAddr 92 x i) (hw : Region.wanted oi (yielded ops a.tmps) = true) (g : Nat) (hx : a.eval x = .pointer (some ⟨g, 0, none⟩)) : Ans Tryz.prog ops S oi (.pointer (some ⟨g, i, none⟩)) a := by
  refine ans_plain hw fun w hS => ?_
  unfold execOp
  simp only [ho, hx]
  match i, hi with
  | 0, _ => go_simp
  | 1, _ => go_simp
  | 2, _ => go_simp
/-- All of a key. -/
def kc (a1 a2 a3 : Option Addr) (c1 c2 c3 : Nat) : List Value := [.slice a1 256 c1, .slice a2 60 c2, .slice a3 128 c3]
theorem ans_key {ops : Array Oper} {S : World → Prop} {oi : Oper} {a : Act} (x : Operand) (ho : oi.op = .load 92 x) (hw : Region.wanted oi (yielded ops a.tmps) = true) (g : Nat) {a1 a2 a3 : Option Addr} {c1 c2 c3 : Nat} (hx : a.eval x = .pointer (some ⟨g, 0, none⟩)) (hb : ∀ w, S w → Blk w g (kc a1 a2 a3 c1 c2 c3) 92) : Ans Tryz.prog ops S oi (kv a1 a2 a3 c1 c2 c3) a := by
  refine ans_plain hw fun w hS => ?_
  have e0 := (hb w hS).cell 0
  have e1 := (hb w hS).cell 1
  have e2 := (hb w hS).cell 2
  simp only [kc, List.getElem?_cons_zero, List.getElem?_cons_succ] at e0 e1 e2
  unfold execOp kv
  simp only [ho, hx]
  go_simp

end Go.Proofs.YtjpejheipkfanaaGreatDoor
