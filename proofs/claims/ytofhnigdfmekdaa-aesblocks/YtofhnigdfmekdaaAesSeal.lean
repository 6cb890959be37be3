/-
  The contract of the cipher's Block. Conditions: the tables and the keys of all rounds lie where the pointer leads; a block of 16 bytes.
-/
import Derived.Test.YtofhnigdfmekdaaAesMix
import Derived.Test.YtofhnigdfmekdaaAesRow
import Derived.Deep.DeepCutAuto
namespace Go.Proofs.Ytofhnigdfmekdaa
open Go.RowKit

/-- The key of a round, out of all rounds' keys. -/
def rk (K : List UInt8) (r : Nat) : List UInt8 := (K.drop (16 * r)).take 16
theorem rk_length {K : List UInt8} (hK : K.length = 240) {r : Nat} (hr : r ≤ 14) : (rk K r).length = 16 := by simp [rk, hK]; omega
/-- A block, behind so many rounds. -/
def blkS (K b : List UInt8) : Nat → List UInt8
  | 0 => xorL b (rk K 0)
  | r + 1 => xorL (if r + 1 < 14 then mixL (shf (blkS K b r)) else shf (blkS K b r)) (rk K (r + 1))
def aesL (K b : List UInt8) : List UInt8 := blkS K b 14
theorem blkS_length {K b : List UInt8} (hK : K.length = 240) (hb : b.length = 16) : ∀ {r : Nat}, r ≤ 14 → (blkS K b r).length = 16
  | 0, hr => by rw [blkS, xorL_length (by rw [hb, rk_length hK hr]), hb]
  | r + 1, hr => by
    rw [blkS]
    split
    · rw [xorL_length (by rw [mixL_length, rk_length hK hr]), mixL_length]
    · rw [xorL_length (by rw [shf_length, rk_length hK hr]), shf_length]

/-- A cipher: the tables, and all rounds' keys behind them. -/
def Cip (w : World) (g : Nat) (K : List UInt8) : Prop := w.rangeAt g 0 (cs (tabT ++ K))
theorem Cip.tab {w : World} {g : Nat} {K : List UInt8} (h : Cip w g K) : Tab w g := fun j v hv => by
  refine h j v ?_
  rw [cs_append, List.getElem?_append_left (List.getElem?_eq_some_iff.1 hv).1]
  exact hv
theorem Cip.key {w : World} {g : Nat} {K : List UInt8} (h : Cip w g K) (r : Nat) : w.rangeAt g (512 + 16 * r) (cs (rk K r)) := fun j v hv => by
  have := h (512 + 16 * r + j) v (by
    rw [cs_append, List.getElem?_append_right (by rw [cs_length, tabT_length]; omega), cs_length, tabT_length, show 512 + 16 * r + j - 512 = 16 * r + j from by omega]
    exact cs_sub hv)
  rw [Nat.zero_add] at this
  exact this
theorem Cip.below {w w' : World} {g : Nat} {K : List UInt8} (h : Cip w g K) {B : Nat} (hb : Below B w w') (hB : g < B) : Cip w' g K := fun j v hv => by
  rw [hb.cell (p := ⟨g, 0 + j, none⟩) hB]
  exact h j v hv
theorem Cip.dr {w : World} {g : Nat} {K : List UInt8} (h : Cip w g K) : Cip w.drew g K := h

abbrev z16 : Array Value := #[.int .u8 0, .int .u8 0, .int .u8 0, .int .u8 0, .int .u8 0, .int .u8 0, .int .u8 0, .int .u8 0, .int .u8 0, .int .u8 0, .int .u8 0, .int .u8 0, .int .u8 0, .int .u8 0, .int .u8 0, .int .u8 0]
theorem z16_eq : z16.toList = cs (List.replicate 16 0) := rfl

attribute [local go_sem ↓] ld16_in st16_in
attribute [local go_sem] ld16_run row16_drew st16_run okS_drew
set_option maxRecDepth 100000 in
set_option maxHeartbeats 2000000 in
theorem oBlock (w : World) (g : Nat) (K : List UInt8) (hC : Cip w g K) (hK : K.length = 240) (b : List UInt8) (hb : b.length = 16) :
    Calls Try.prog 13 #[.pointer (some ⟨g, 0, none⟩), bv b] w fun e w' => e = .returned (bv (aesL K b)) ∧ Below w.heap.size w w' := by
  have hgl := hC.tab.lt
  unfold bv
  have HBL : Hid (b.length = 16) := hb
  go_enter Try.func13, Try.ntmps13
  go_wp2_with fail
  obtain ⟨W2, hW2⟩ : ∃ W2, W2 = (w.alloc (.cells (cs b).toArray 28)).alloc (.cells z16 28) := ⟨_, rfl⟩
  rw [← hW2]
  have d0 : Blk W2 w.heap.size (cs b) 28 := by rw [hW2]; exact (Blk.new w _ _).old _
  have d1 : Blk W2 (w.heap.size + 1) (cs (List.replicate 16 0)) 28 := by rw [hW2]; exact Blk.newAt (w.alloc _) z16 _ _ (by simp) _ rfl
  have hd : Below w.heap.size w W2 := by rw [hW2]; exact below2 w _ _
  clear hW2
  have hCd := hC.below hd hgl
  have k0 := hCd.key 0
  have q0 := row16_of d0.whole (by rw [cs_length, hb])
  have q1 := row16_of k0 (by rw [cs_length, rk_length hK (by omega)])
  rw [Nat.mul_zero, Nat.add_zero] at q1
  have HR : Hid (∀ r, r ≤ 14 → (rk K r).length = 16) := fun r hr => rk_length hK hr
  have HS : Hid (∀ r, r ≤ 14 → (blkS K b r).length = 16) := fun r hr => blkS_length hK hb hr
  have CA : Hid (∀ (w : World) (a c : List UInt8), a.length = 16 → c.length = 16 → Calls Try.prog 25 #[.agg (cs a).toArray, .agg (cs c).toArray] w fun e w' => e = .returned (.agg (cs (xorL a c)).toArray) ∧ Below w.heap.size w w') := fun w a c ha hc => oAdd w a c ha hc
  clear k0
  go_cut [] (fun wx => Blk wx w.heap.size (cs (blkS K b 0)) 28 ∧ Blk wx (w.heap.size + 1) (cs (List.replicate 16 0)) 28 ∧ Below w.heap.size w wx)
  case first =>
    go_region_with (go_at_call 25; refine (CA.out W2.drew b (rk K 0) HBL.out (HR.out 0 (by omega))).mono ?_; rintro e w3 ⟨rfl, hb3⟩; have e0 := d0.dr.below hb3 d0.lt; have ok3 := okS_of (x := xorL b (rk K 0)) e0 HBL.out (HS.out 0 (by omega)))
    all_goals
      go_wp2_with fail
      go_meet
      case rel =>
        exact ⟨sto_blk e0 HBL.out (HS.out 0 (by omega)), sto_other (d1.dr.below hb3 d1.lt) (by omega) _, sto_below (Nat.le_refl _) (hd.drew.trans (hb3.mono hd.size)) _⟩
  case rest =>
    clear q0 q1 d0 d1 hCd hd
    obtain ⟨d0, d1, hd⟩ := hcut
    have CS : Hid (∀ (w : World) (c : List UInt8), Tab w g → c.length = 16 → Calls Try.prog 26 #[.pointer (some ⟨g, 0, none⟩), .agg (cs c).toArray] w fun e w' => e = .returned (.agg (cs (shf c)).toArray) ∧ Below w.heap.size w w') := fun w c hT hc => oShifted w g hT c hc
    have CM : Hid (∀ (w : World) (c : List UInt8), Tab w g → c.length = 16 → Calls Try.prog 27 #[.pointer (some ⟨g, 0, none⟩), .agg (cs c).toArray] w fun e w' => e = .returned (.agg (cs (mixL c)).toArray) ∧ Below w.heap.size w w') := fun w c hT hc => oMixed w g hT c hc
    clear hK hb
    go_wp2_with fail
    go_loopw [5] (fun i wr => ∃ r : Nat, r ≤ 14 ∧ i = .int .i64 ((r : Int) + 1) ∧ Blk wr w.heap.size (cs (blkS K b r)) 28 ∧ Blk wr (w.heap.size + 1) (cs (List.replicate 16 0)) 28 ∧ Below w.heap.size w wr) (fun i _ => 15 - (intOf i).toNat)
    case atStart => exact ⟨0, by omega, rfl, d0, d1, hd⟩
    case round =>
      clear d0 d1 hd
      obtain ⟨r, hr, rfl, d0, d1, hd⟩ := hrel
      by_cases hlt : r < 14
      · have hSl := HS.out r hr
        have HN : Hid (blkS K b (r + 1) = xorL (if r + 1 < 14 then mixL (shf (blkS K b r)) else shf (blkS K b r)) (rk K (r + 1))) := rfl
        have HNL : Hid ((blkS K b (r + 1)).length = 16) := HS.out (r + 1) (by omega)
        generalize hS : blkS K b r = S at *
        clear hS
        have HSl : Hid (S.length = 16) := hSl
        obtain ⟨i, hi⟩ : ∃ i, i = r + 1 := ⟨_, rfl⟩
        rw [show (r : Int) + 1 = (i : Int) from by omega]
        have HI : Hid (i = r + 1) := hi
        have hr0 : (0 : Int) ≤ (i : Int) := by omega
        have hr1 : (i : Int) ≤ 14 := by omega
        have hr3 : (i : Int) < 15 := by omega
        rw [← hi] at HN HNL
        have HRI : Hid ((rk K i).length = 16) := HR.out i (by omega)
        have h14 : i ≤ 14 := by omega
        have hri : r < i := by omega
        clear hi
        have hCd := hC.below hd hgl
        have HT : Hid (Tab wr g) := hCd.tab
        have q0 := row16_of d0.whole (by rw [cs_length, hSl])
        clear hSl hCd
        go_wp2_with fail
        go_cut [] (fun wx => Blk wx w.heap.size (cs (shf S)) 28 ∧ Blk wx (w.heap.size + 1) (cs (List.replicate 16 0)) 28 ∧ Below w.heap.size w wx)
        case first =>
          go_region_with (go_at_call 26; refine (CS.out wr.drew S HT.out HSl.out).mono ?_; rintro e w3 ⟨rfl, hb3⟩; have e0 := d0.dr.below hb3 d0.lt; have ok3 := okS_of (x := shf S) e0 HSl.out (shf_length S))
          all_goals
            go_wp2_with fail
            go_meet
            case rel =>
              exact ⟨sto_blk e0 HSl.out (shf_length S), sto_other (d1.dr.below hb3 d1.lt) (by omega) _, sto_below (Nat.le_refl _) (hd.drew.trans (hb3.mono hd.size)) _⟩
        case rest =>
          clear q0 d0 d1 hd HT
          obtain ⟨d0, d1, hd⟩ := hcut
          have HSF : Hid ((shf S).length = 16) := shf_length S
          by_cases h13 : i < 14
          · have hr2 : (i : Int) < 14 := by omega
            have HT : Hid (Tab wc g) := (hC.below hd hgl).tab
            have q0 := row16_of d0.whole (by rw [cs_length, shf_length])
            have HNN : Hid (blkS K b i = xorL (mixL (shf S)) (rk K i)) := by show _ = _; rw [HN.out, if_pos h13]
            clear HN
            go_wp2_with fail
            go_cut [] (fun wx => Blk wx w.heap.size (cs (mixL (shf S))) 28 ∧ Blk wx (w.heap.size + 1) (cs (List.replicate 16 0)) 28 ∧ Below w.heap.size w wx)
            case first =>
              go_region_with (go_at_call 27; refine (CM.out wc.drew (shf S) HT.out HSF.out).mono ?_; rintro e w3 ⟨rfl, hb3⟩; have e0 := d0.dr.below hb3 d0.lt; have ok3 := okS_of (x := mixL (shf S)) e0 HSF.out (mixL_length (shf S)))
              all_goals
                go_wp2_with fail
                go_meet
                case rel =>
                  exact ⟨sto_blk e0 HSF.out (mixL_length _), sto_other (d1.dr.below hb3 d1.lt) (by omega) _, sto_below (Nat.le_refl _) (hd.drew.trans (hb3.mono hd.size)) _⟩
            case rest =>
              clear q0 d0 d1 hd HT
              obtain ⟨d0, d1, hd⟩ := hcut
              have q0 := row16_of d0.whole (by rw [cs_length, mixL_length])
              have q1 := row16_of ((hC.below hd hgl).key i) (by rw [cs_length, HRI.out])
              rw [Nat.mul_comm] at q1
              have HML : Hid ((mixL (shf S)).length = 16) := mixL_length _
              have HXL : Hid ((xorL (mixL (shf S)) (rk K i)).length = 16) := by show _ = _; rw [← HNN.out]; exact HNL.out
              go_wp2_with fail
              go_region_with (go_at_call 25; refine (CA.out wc.drew (mixL (shf S)) (rk K i) HML.out HRI.out).mono ?_; rintro e w3 ⟨rfl, hb3⟩; have e0 := d0.dr.below hb3 d0.lt; have ok3 := okS_of (x := xorL (mixL (shf S)) (rk K i)) e0 HML.out HXL.out)
              all_goals
                go_wp2_with fail
                go_roundw
                case rel => exact ⟨i, h14, by go_num, by rw [HNN.out]; exact sto_blk e0 HML.out HXL.out, sto_other (d1.dr.below hb3 d1.lt) (by omega) _, sto_below (Nat.le_refl _) (hd.drew.trans (hb3.mono hd.size)) _⟩
                case measure => simp [intOf]; omega
          · have hr2 : ¬ (i : Int) < 14 := by omega
            have HNN : Hid (blkS K b i = xorL (shf S) (rk K i)) := by show _ = _; rw [HN.out, if_neg h13]
            clear HN
            have q0 := row16_of d0.whole (by rw [cs_length, shf_length])
            have q1 := row16_of ((hC.below hd hgl).key i) (by rw [cs_length, HRI.out])
            rw [Nat.mul_comm] at q1
            have HXL : Hid ((xorL (shf S) (rk K i)).length = 16) := by show _ = _; rw [← HNN.out]; exact HNL.out
            go_wp2_with fail
            go_region_with (go_at_call 25; refine (CA.out wc.drew (shf S) (rk K i) HSF.out HRI.out).mono ?_; rintro e w3 ⟨rfl, hb3⟩; have e0 := d0.dr.below hb3 d0.lt; have ok3 := okS_of (x := xorL (shf S) (rk K i)) e0 HSF.out HXL.out)
            all_goals
              go_wp2_with fail
              go_roundw
              case rel => exact ⟨i, h14, by go_num, by rw [HNN.out]; exact sto_blk e0 HSF.out HXL.out, sto_other (d1.dr.below hb3 d1.lt) (by omega) _, sto_below (Nat.le_refl _) (hd.drew.trans (hb3.mono hd.size)) _⟩
              case measure => simp [intOf]; omega
      · obtain rfl : r = 14 := by omega
        have HL : Hid ((cs (blkS K b 14)).length = 16) := by show _ = _; rw [cs_length, HS.out 14 (by omega)]
        go_wp2_with (first
          | (with_reducible refine at_ld 28 ?_; refine ld 28 (.tmp 3) 16 sizeK _ Try.underlying28 rfl w.heap.size 0 _ HL.out d0.whole rfl ?_)
          | (with_reducible refine at_st 28 ?_; refine st 28 (.tmp 4) (.tmp 37) 16 sizeK (w.heap.size + 1) 0 _ HL.out cs_one (d1.there 0 16 (by rw [cs_length]; simp)) rfl rfl ?_))
        have b3 := d1.setsW (cs (blkS K b 14)) (by rw [HL.out]; rfl)
        exact bodyPost_ret (v := .agg (cs (blkS K b 14)).toArray) (res_blk Try.results13 _ _ (w.heap.size + 1) _ _ _ rfl b3 Try.underlying28 16 HL.out sizeK) rfl ⟨rfl, below_sets (by omega) _ hd 0⟩

end Go.Proofs.Ytofhnigdfmekdaa
