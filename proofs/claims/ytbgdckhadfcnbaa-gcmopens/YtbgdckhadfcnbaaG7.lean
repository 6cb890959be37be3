/-
  6 texts in one. No statement of the seat is proved here.
-/
import Derived.Test.YtbgdckhadfcnbaaG6
import Derived.Deep.DeepCutAuto
/-
  Arrays of 16 bytes, loaded and stored whole inside regions that draw their order. No condition; no statement of the seat is proved here.
-/
namespace Go.Proofs.Ytbgdckhadfcnbaa
open Go.RowKit

/-- The 16 cells from a place on, where they are all there. -/
def row16 (w : World) (b o : Nat) : Option (Array Value) :=
  if ∀ j, j < 16 → (w.cell? ⟨b, o + j, none⟩).isSome = true then some ((List.range 16).map fun j => (w.cell? ⟨b, o + j, none⟩).getD undef).toArray else none
def farLd16 (P : Program) (w : World) (b o : Nat) : Result Value := Sem.run P (Instr.loadAt 48 (.pointer (some ⟨b, o, none⟩))) w
theorem ld16_rule (w : World) (b o : Nat) : Sem.run Try.prog (Instr.loadAt 48 (.pointer (some ⟨b, o, none⟩))) w = match row16 w b o with | some c => .ok (.agg c) w | none => farLd16 Try.prog w b o := by
  unfold row16
  split
  · rename_i c hc
    split at hc
    · rename_i h
      simp only [Option.some.injEq] at hc
      subst hc
      refine run_loadAt_mid w b o 48 _ _ (fun j v hv => ?_) Try.underlying48 rfl (by rw [sizeK]; simp)
      have hj : j < 16 := by
        have := (List.getElem?_eq_some_iff.1 hv).1
        simpa using this
      have e := h j hj
      obtain ⟨u, hu⟩ := Option.isSome_iff_exists.1 e
      simp [hj, hu] at hv
      rw [hu, hv]
    · simp at hc
  · rfl
def ld16 (x : Value) : Sem Value := Instr.loadAt 48 x
theorem ld16_in (x : Value) : Instr.loadAt 48 x = ld16 x := rfl
theorem ld16_run (w : World) (b o : Nat) : Sem.run Try.prog (ld16 (.pointer (some ⟨b, o, none⟩))) w = match row16 w b o with | some c => .ok (.agg c) w | none => farLd16 Try.prog w b o := ld16_rule w b o
theorem row16_drew (w : World) (b o : Nat) : row16 w.drew b o = row16 w b o := rfl
theorem row16_of {w : World} {b o : Nat} {c : List Value} (h : w.rangeAt b o c) (hc : c.length = 16) : row16 w b o = some c.toArray := by
  have hs : ∀ j, j < 16 → w.cell? ⟨b, o + j, none⟩ = c[j]? := fun j hj => by
    rw [h j c[j] (List.getElem?_eq_getElem (by omega)), List.getElem?_eq_getElem]
  unfold row16
  rw [if_pos (fun j hj => by rw [hs j hj, List.getElem?_eq_getElem (by omega)]; rfl)]
  congr 2
  apply List.ext_getElem
  · simp [hc]
  · intro j h1 h2
    simp only [List.getElem_map, List.getElem_range]
    rw [hs j (by omega), List.getElem?_eq_getElem h2]
    rfl

/-- What a store of a whole array leaves. -/
def sto (w : World) (b o : Nat) (c : Array Value) : World := w.setCells b o c.toList
def okS (w : World) (b o : Nat) (c : Array Value) : Bool := decide ((∀ j : Fin 16, (w.cell? ⟨b, o + j.val, none⟩).isSome = true ∧ w.frozen? ⟨b, o + j.val, none⟩ = false) ∧ c.size = 16 ∧ c.all (·.oneCell') = true)
def farSt16 (P : Program) (w : World) (b o : Nat) (c : Array Value) : Result Unit := Sem.run P (Instr.storeAt 48 (.pointer (some ⟨b, o, none⟩)) (.agg c)) w
def st16 (x y : Value) : Sem Unit := Instr.storeAt 48 x y
theorem st16_in (x y : Value) : Instr.storeAt 48 x y = st16 x y := rfl
theorem st16_run (w : World) (b o : Nat) (c : Array Value) : Sem.run Try.prog (st16 (.pointer (some ⟨b, o, none⟩)) (.agg c)) w = match okS w b o c with | true => .ok () (sto w b o c) | false => farSt16 Try.prog w b o c := by
  split
  · rename_i h
    unfold okS at h
    obtain ⟨h1, h2, h3⟩ := of_decide_eq_true h
    exact run_storeAt_mid w b o 48 c (by rw [h2]; exact fun j hj => h1 ⟨j, hj⟩) (by rw [h2]; exact sizeK) h3
  · rfl
theorem okS_drew (w : World) (b o : Nat) (c : Array Value) : okS w.drew b o c = okS w b o c := rfl
theorem okS_of {w : World} {g : Nat} {l x : List UInt8} {t : TypeId} (b : Blk w g (cs l) t) (hl : l.length = 16) (hx : x.length = 16) : okS w g 0 (cs x).toArray = true := by
  unfold okS
  exact decide_eq_true ⟨fun j => b.there 0 16 (by rw [cs_length, hl]; omega) j.val j.isLt, by simp [cs_length, hx], all_oneCell_toArray cs_one⟩
theorem sto_blk {w : World} {g : Nat} {l x : List UInt8} {t : TypeId} (b : Blk w g (cs l) t) (hl : l.length = 16) (hx : x.length = 16) : Blk (sto w g 0 (cs x).toArray) g (cs x) t := by
  unfold sto
  exact b.setsW (cs x) (by rw [cs_length, cs_length, hl, hx])
theorem sto_other {w : World} {g k : Nat} {us : List Value} {t : TypeId} (b : Blk w k us t) (hk : k ≠ g) (c : Array Value) : Blk (sto w g 0 c) k us t := by
  unfold sto
  exact Blk.setsO hk _ b 0
theorem sto_below {B g : Nat} {a w : World} (hg : B ≤ g) (h : Below B a w) (c : Array Value) : Below B a (sto w g 0 c) := by
  unfold sto
  exact below_sets hg _ h 0

end Go.Proofs.Ytbgdckhadfcnbaa

/-
  The contract of the cipher's Block. Conditions: the tables and the keys of all rounds lie where the pointer leads; a block of 16 bytes.
-/
namespace Go.Proofs.Ytbgdckhadfcnbaa
open Go.RowKit

/-- The key of a round, out of all rounds' keys. -/
def rk (K : List UInt8) (r : Nat) : List UInt8 := (K.drop (16 * r)).take 16
theorem rk_length {K : List UInt8} (hK : K.length = 240) {r : Nat} (hr : r ≤ 14) : (rk K r).length = 16 := by simp [rk, hK]; omega
/-- A block, behind so many rounds. -/
def blkS (K b : List UInt8) : Nat → List UInt8
  | 0 => xorL b (rk K 0)
  | r + 1 => xorL (if r + 1 < 14 then mixL (shf (blkS K b r)) else shf (blkS K b r)) (rk K (r + 1))
def aesL (K b : List UInt8) : List UInt8 := blkS K b 14
theorem blkS_length {K b : List UInt8} (hK : K.length = 240) (hb : b.length = 16) : ∀ {r : Nat}, r ≤ 14 → (blkS K b r).length = 16
  | 0, hr => by rw [blkS, xorL_length (by rw [hb, rk_length hK hr]), hb]
  | r + 1, hr => by
    rw [blkS]
    split
    · rw [xorL_length (by rw [mixL_length, rk_length hK hr]), mixL_length]
    · rw [xorL_length (by rw [shf_length, rk_length hK hr]), shf_length]

/-- A cipher: the tables, and all rounds' keys behind them. -/
def Cip (w : World) (g : Nat) (K : List UInt8) : Prop := w.rangeAt g 0 (cs (tabT ++ K))
theorem Cip.tab {w : World} {g : Nat} {K : List UInt8} (h : Cip w g K) : Tab w g := fun j v hv => by
  refine h j v ?_
  rw [cs_append, List.getElem?_append_left (List.getElem?_eq_some_iff.1 hv).1]
  exact hv
theorem Cip.key {w : World} {g : Nat} {K : List UInt8} (h : Cip w g K) (r : Nat) : w.rangeAt g (512 + 16 * r) (cs (rk K r)) := fun j v hv => by
  have := h (512 + 16 * r + j) v (by
    rw [cs_append, List.getElem?_append_right (by rw [cs_length, tabT_length]; omega), cs_length, tabT_length, show 512 + 16 * r + j - 512 = 16 * r + j from by omega]
    exact cs_sub hv)
  rw [Nat.zero_add] at this
  exact this
theorem Cip.below {w w' : World} {g : Nat} {K : List UInt8} (h : Cip w g K) {B : Nat} (hb : Below B w w') (hB : g < B) : Cip w' g K := fun j v hv => by
  rw [hb.cell (p := ⟨g, 0 + j, none⟩) hB]
  exact h j v hv
theorem Cip.dr {w : World} {g : Nat} {K : List UInt8} (h : Cip w g K) : Cip w.drew g K := h


attribute [local go_sem ↓] ld16_in st16_in
attribute [local go_sem] ld16_run row16_drew st16_run okS_drew
set_option maxRecDepth 100000 in
set_option maxHeartbeats 2000000 in
theorem oBlock (w : World) (g : Nat) (K : List UInt8) (hC : Cip w g K) (hK : K.length = 240) (b : List UInt8) (hb : b.length = 16) :
    Calls Try.prog 19 #[.pointer (some ⟨g, 0, none⟩), bv b] w fun e w' => e = .returned (bv (aesL K b)) ∧ Below w.heap.size w w' := by
  have hgl := hC.tab.lt
  unfold bv
  have HBL : Hid (b.length = 16) := hb
  go_enter Try.func19, Try.ntmps19
  go_wp2_with fail
  obtain ⟨W2, hW2⟩ : ∃ W2, W2 = (w.alloc (.cells (cs b).toArray 48)).alloc (.cells z16 48) := ⟨_, rfl⟩
  rw [← hW2]
  have d0 : Blk W2 w.heap.size (cs b) 48 := by rw [hW2]; exact (Blk.new w _ _).old _
  have d1 : Blk W2 (w.heap.size + 1) (cs (List.replicate 16 0)) 48 := by rw [hW2]; exact Blk.newAt (w.alloc _) z16 _ _ (by simp) _ rfl
  have hd : Below w.heap.size w W2 := by rw [hW2]; exact below2 w _ _
  clear hW2
  have hCd := hC.below hd hgl
  have k0 := hCd.key 0
  have q0 := row16_of d0.whole (by rw [cs_length, hb])
  have q1 := row16_of k0 (by rw [cs_length, rk_length hK (by omega)])
  rw [Nat.mul_zero, Nat.add_zero] at q1
  have HR : Hid (∀ r, r ≤ 14 → (rk K r).length = 16) := fun r hr => rk_length hK hr
  have HS : Hid (∀ r, r ≤ 14 → (blkS K b r).length = 16) := fun r hr => blkS_length hK hb hr
  have CA : Hid (∀ (w : World) (a c : List UInt8), a.length = 16 → c.length = 16 → Calls Try.prog 37 #[.agg (cs a).toArray, .agg (cs c).toArray] w fun e w' => e = .returned (.agg (cs (xorL a c)).toArray) ∧ Below w.heap.size w w') := fun w a c ha hc => oAdd w a c ha hc
  clear k0
  go_cut [] (fun wx => Blk wx w.heap.size (cs (blkS K b 0)) 48 ∧ Blk wx (w.heap.size + 1) (cs (List.replicate 16 0)) 48 ∧ Below w.heap.size w wx)
  case first =>
    go_region_with (go_at_call 37; refine (CA.out W2.drew b (rk K 0) HBL.out (HR.out 0 (by omega))).mono ?_; rintro e w3 ⟨rfl, hb3⟩; have e0 := d0.dr.below hb3 d0.lt; have ok3 := okS_of (x := xorL b (rk K 0)) e0 HBL.out (HS.out 0 (by omega)))
    all_goals
      go_wp2_with fail
      go_meet
      case rel =>
        exact ⟨sto_blk e0 HBL.out (HS.out 0 (by omega)), sto_other (d1.dr.below hb3 d1.lt) (by omega) _, sto_below (Nat.le_refl _) (hd.drew.trans (hb3.mono hd.size)) _⟩
  case rest =>
    clear q0 q1 d0 d1 hCd hd
    obtain ⟨d0, d1, hd⟩ := hcut
    have CS : Hid (∀ (w : World) (c : List UInt8), Tab w g → c.length = 16 → Calls Try.prog 38 #[.pointer (some ⟨g, 0, none⟩), .agg (cs c).toArray] w fun e w' => e = .returned (.agg (cs (shf c)).toArray) ∧ Below w.heap.size w w') := fun w c hT hc => oShifted w g hT c hc
    have CM : Hid (∀ (w : World) (c : List UInt8), Tab w g → c.length = 16 → Calls Try.prog 39 #[.pointer (some ⟨g, 0, none⟩), .agg (cs c).toArray] w fun e w' => e = .returned (.agg (cs (mixL c)).toArray) ∧ Below w.heap.size w w') := fun w c hT hc => oMixed w g hT c hc
    clear hK hb
    go_wp2_with fail
    go_loopw [5] (fun i wr => ∃ r : Nat, r ≤ 14 ∧ i = .int .i64 ((r : Int) + 1) ∧ Blk wr w.heap.size (cs (blkS K b r)) 48 ∧ Blk wr (w.heap.size + 1) (cs (List.replicate 16 0)) 48 ∧ Below w.heap.size w wr) (fun i _ => 15 - (intOf i).toNat)
    case atStart => exact ⟨0, by omega, rfl, d0, d1, hd⟩
    case round =>
      clear d0 d1 hd
      obtain ⟨r, hr, rfl, d0, d1, hd⟩ := hrel
      by_cases hlt : r < 14
      · have hSl := HS.out r hr
        have HN : Hid (blkS K b (r + 1) = xorL (if r + 1 < 14 then mixL (shf (blkS K b r)) else shf (blkS K b r)) (rk K (r + 1))) := rfl
        have HNL : Hid ((blkS K b (r + 1)).length = 16) := HS.out (r + 1) (by omega)
        generalize hS : blkS K b r = S at *
        clear hS
        have HSl : Hid (S.length = 16) := hSl
        obtain ⟨i, hi⟩ : ∃ i, i = r + 1 := ⟨_, rfl⟩
        rw [show (r : Int) + 1 = (i : Int) from by omega]
        have HI : Hid (i = r + 1) := hi
        have hr0 : (0 : Int) ≤ (i : Int) := by omega
        have hr1 : (i : Int) ≤ 14 := by omega
        have hr3 : (i : Int) < 15 := by omega
        rw [← hi] at HN HNL
        have HRI : Hid ((rk K i).length = 16) := HR.out i (by omega)
        have h14 : i ≤ 14 := by omega
        have hri : r < i := by omega
        clear hi
        have hCd := hC.below hd hgl
        have HT : Hid (Tab wr g) := hCd.tab
        have q0 := row16_of d0.whole (by rw [cs_length, hSl])
        clear hSl hCd
        go_wp2_with fail
        go_cut [] (fun wx => Blk wx w.heap.size (cs (shf S)) 48 ∧ Blk wx (w.heap.size + 1) (cs (List.replicate 16 0)) 48 ∧ Below w.heap.size w wx)
        case first =>
          go_region_with (go_at_call 38; refine (CS.out wr.drew S HT.out HSl.out).mono ?_; rintro e w3 ⟨rfl, hb3⟩; have e0 := d0.dr.below hb3 d0.lt; have ok3 := okS_of (x := shf S) e0 HSl.out (shf_length S))
          all_goals
            go_wp2_with fail
            go_meet
            case rel =>
              exact ⟨sto_blk e0 HSl.out (shf_length S), sto_other (d1.dr.below hb3 d1.lt) (by omega) _, sto_below (Nat.le_refl _) (hd.drew.trans (hb3.mono hd.size)) _⟩
        case rest =>
          clear q0 d0 d1 hd HT
          obtain ⟨d0, d1, hd⟩ := hcut
          have HSF : Hid ((shf S).length = 16) := shf_length S
          by_cases h13 : i < 14
          · have hr2 : (i : Int) < 14 := by omega
            have HT : Hid (Tab wc g) := (hC.below hd hgl).tab
            have q0 := row16_of d0.whole (by rw [cs_length, shf_length])
            have HNN : Hid (blkS K b i = xorL (mixL (shf S)) (rk K i)) := by show _ = _; rw [HN.out, if_pos h13]
            clear HN
            go_wp2_with fail
            go_cut [] (fun wx => Blk wx w.heap.size (cs (mixL (shf S))) 48 ∧ Blk wx (w.heap.size + 1) (cs (List.replicate 16 0)) 48 ∧ Below w.heap.size w wx)
            case first =>
              go_region_with (go_at_call 39; refine (CM.out wc.drew (shf S) HT.out HSF.out).mono ?_; rintro e w3 ⟨rfl, hb3⟩; have e0 := d0.dr.below hb3 d0.lt; have ok3 := okS_of (x := mixL (shf S)) e0 HSF.out (mixL_length (shf S)))
              all_goals
                go_wp2_with fail
                go_meet
                case rel =>
                  exact ⟨sto_blk e0 HSF.out (mixL_length _), sto_other (d1.dr.below hb3 d1.lt) (by omega) _, sto_below (Nat.le_refl _) (hd.drew.trans (hb3.mono hd.size)) _⟩
            case rest =>
              clear q0 d0 d1 hd HT
              obtain ⟨d0, d1, hd⟩ := hcut
              have q0 := row16_of d0.whole (by rw [cs_length, mixL_length])
              have q1 := row16_of ((hC.below hd hgl).key i) (by rw [cs_length, HRI.out])
              rw [Nat.mul_comm] at q1
              have HML : Hid ((mixL (shf S)).length = 16) := mixL_length _
              have HXL : Hid ((xorL (mixL (shf S)) (rk K i)).length = 16) := by show _ = _; rw [← HNN.out]; exact HNL.out
              go_wp2_with fail
              go_region_with (go_at_call 37; refine (CA.out wc.drew (mixL (shf S)) (rk K i) HML.out HRI.out).mono ?_; rintro e w3 ⟨rfl, hb3⟩; have e0 := d0.dr.below hb3 d0.lt; have ok3 := okS_of (x := xorL (mixL (shf S)) (rk K i)) e0 HML.out HXL.out)
              all_goals
                go_wp2_with fail
                go_roundw
                case rel => exact ⟨i, h14, by go_num, by rw [HNN.out]; exact sto_blk e0 HML.out HXL.out, sto_other (d1.dr.below hb3 d1.lt) (by omega) _, sto_below (Nat.le_refl _) (hd.drew.trans (hb3.mono hd.size)) _⟩
                case measure => simp [intOf]; omega
          · have hr2 : ¬ (i : Int) < 14 := by omega
            have HNN : Hid (blkS K b i = xorL (shf S) (rk K i)) := by show _ = _; rw [HN.out, if_neg h13]
            clear HN
            have q0 := row16_of d0.whole (by rw [cs_length, shf_length])
            have q1 := row16_of ((hC.below hd hgl).key i) (by rw [cs_length, HRI.out])
            rw [Nat.mul_comm] at q1
            have HXL : Hid ((xorL (shf S) (rk K i)).length = 16) := by show _ = _; rw [← HNN.out]; exact HNL.out
            go_wp2_with fail
            go_region_with (go_at_call 37; refine (CA.out wc.drew (shf S) (rk K i) HSF.out HRI.out).mono ?_; rintro e w3 ⟨rfl, hb3⟩; have e0 := d0.dr.below hb3 d0.lt; have ok3 := okS_of (x := xorL (shf S) (rk K i)) e0 HSF.out HXL.out)
            all_goals
              go_wp2_with fail
              go_roundw
              case rel => exact ⟨i, h14, by go_num, by rw [HNN.out]; exact sto_blk e0 HSF.out HXL.out, sto_other (d1.dr.below hb3 d1.lt) (by omega) _, sto_below (Nat.le_refl _) (hd.drew.trans (hb3.mono hd.size)) _⟩
              case measure => simp [intOf]; omega
      · obtain rfl : r = 14 := by omega
        have HL : Hid ((cs (blkS K b 14)).length = 16) := by show _ = _; rw [cs_length, HS.out 14 (by omega)]
        go_wp2_with (first
          | (with_reducible refine at_ld 48 ?_; refine ld 48 (.tmp 3) 16 sizeK _ Try.underlying48 rfl w.heap.size 0 _ HL.out d0.whole rfl ?_)
          | (with_reducible refine at_st 48 ?_; refine st 48 (.tmp 4) (.tmp 37) 16 sizeK (w.heap.size + 1) 0 _ HL.out cs_one (d1.there 0 16 (by rw [cs_length]; simp)) rfl rfl ?_))
        have b3 := d1.setsW (cs (blkS K b 14)) (by rw [HL.out]; rfl)
        exact bodyPost_ret (v := .agg (cs (blkS K b 14)).toArray) (res_blk Try.results19 _ _ (w.heap.size + 1) _ _ _ rfl b3 Try.underlying48 16 HL.out sizeK) rfl ⟨rfl, below_sets (by omega) _ hd 0⟩

end Go.Proofs.Ytbgdckhadfcnbaa

/-
  Plain mathematics of the keys of all rounds: words of four bytes, one behind the other. No condition; nothing of the program.
-/
namespace Go.Proofs.Ytbgdckhadfcnbaa
open Go.RowKit

/-- Two to the power of n. -/
def dpow : Nat → UInt8
  | 0 => 1
  | n + 1 => dbl (dpow n)
/-- A word of four bytes. -/
def wd (F : List UInt8) (j : Nat) : List UInt8 := (F.drop (4 * j)).take 4
/-- What a word becomes ahead of the i-th one. -/
def tmpW (x : List UInt8) (i : Nat) : List UInt8 :=
  if i % 8 = 0 then [box (x.getD 1 0) ^^^ dpow ((i - 1) / 8), box (x.getD 2 0), box (x.getD 3 0), box (x.getD 0 0)]
  else if i % 8 = 4 then x.map box else x
/-- So many words, one behind the other. -/
def fl (key : List UInt8) : Nat → List UInt8
  | 0 => []
  | i + 1 => fl key i ++ (if i < 8 then wd key i else xorL (wd (fl key i) (i - 8)) (tmpW (wd (fl key i) (i - 1)) i))

theorem wd_length {F : List UInt8} {j : Nat} (h : 4 * j + 4 ≤ F.length) : (wd F j).length = 4 := by simp [wd]; omega
theorem tmpW_length {x : List UInt8} (h : x.length = 4) (i : Nat) : (tmpW x i).length = 4 := by
  unfold tmpW
  split
  · rfl
  · split
    · rw [List.length_map, h]
    · exact h
theorem fl_length {key : List UInt8} (hk : key.length = 32) (i : Nat) : (fl key i).length = 4 * i := by
  induction i with
  | zero => rfl
  | succ i ih =>
    rw [fl, List.length_append, ih]
    split
    · rw [wd_length (by omega)]; omega
    · have h1 : (wd (fl key i) (i - 8)).length = 4 := wd_length (by omega)
      have h2 : (tmpW (wd (fl key i) (i - 1)) i).length = 4 := tmpW_length (wd_length (by omega)) i
      rw [xorL_length (by omega), h1]
      omega
theorem fl_take {key : List UInt8} (hk : key.length = 32) (i n : Nat) : (fl key (i + n)).take (4 * i) = fl key i := by
  induction n with
  | zero => rw [Nat.add_zero, List.take_of_length_le (by rw [fl_length hk]; omega)]
  | succ n ih =>
    rw [← Nat.add_assoc, fl, List.take_append_of_le_length (by rw [fl_length hk]; omega), ih]
theorem wd_take (F : List UInt8) {j i : Nat} (h : j < i) : wd (F.take (4 * i)) j = wd F j := by
  unfold wd
  rw [List.drop_take, List.take_take]
  congr 1
  omega
theorem wd_fl {key : List UInt8} (hk : key.length = 32) {j i n : Nat} (h : j < i) : wd (fl key (i + n)) j = wd (fl key i) j := by
  rw [← wd_take (fl key (i + n)) h, fl_take hk]

/-- All rounds' keys. -/
def keyF (key : List UInt8) : List UInt8 := fl key 60
theorem keyF_length {key : List UInt8} (hk : key.length = 32) : (keyF key).length = 240 := fl_length hk 60
theorem wd_last {key : List UInt8} (hk : key.length = 32) {i : Nat} (hi : i < 60) : wd (keyF key) i = (if i < 8 then wd key i else xorL (wd (fl key i) (i - 8)) (tmpW (wd (fl key i) (i - 1)) i)) := by
  obtain ⟨n, hn⟩ : ∃ n, 60 = (i + 1) + n := ⟨59 - i, by omega⟩
  have h1 : wd (keyF key) i = wd (fl key (i + 1)) i := by
    unfold keyF
    rw [hn, wd_fl hk (Nat.lt_succ_self i)]
  have h2 := fl_length hk i
  have h3 := fl_length hk (i + 1)
  rw [fl, List.length_append, h2] at h3
  rw [h1]
  conv => lhs; rw [fl]
  unfold wd at *
  rw [List.drop_append, List.drop_eq_nil_of_le (by omega), h2, Nat.sub_self, List.drop_zero, List.nil_append, List.take_of_length_le (by omega)]
theorem wd_low {key : List UInt8} (hk : key.length = 32) {i : Nat} (hi : i < 8) : wd (keyF key) i = wd key i := by
  rw [wd_last hk (by omega), if_pos hi]
theorem wd_high {key : List UInt8} (hk : key.length = 32) {i : Nat} (hi : i < 60) (h8 : 8 ≤ i) : wd (keyF key) i = xorL (wd (keyF key) (i - 8)) (tmpW (wd (keyF key) (i - 1)) i) := by
  obtain ⟨n, hn⟩ : ∃ n, 60 = i + n := ⟨60 - i, by omega⟩
  have e : ∀ j, j < i → wd (keyF key) j = wd (fl key i) j := fun j hj => by
    unfold keyF
    rw [hn, wd_fl hk hj]
  rw [wd_last hk hi, if_neg (by omega), e (i - 8) (by omega), e (i - 1) (by omega)]

/-- One more word. -/
theorem fill_word {F : List UInt8} (hF : F.length = 240) {i : Nat} (hi : i < 60) : (fill F 240 (4 * i)).take (4 * i) ++ wd F i ++ (fill F 240 (4 * i)).drop (4 * i + 4) = fill F 240 (4 * (i + 1)) := by
  have hl : (F.take (4 * i)).length = 4 * i := by simp; omega
  have e : (F.take (4 * i)).drop (4 * i + 4) = [] := List.drop_eq_nil_of_le (by omega)
  unfold fill wd
  rw [List.take_append_of_le_length (by omega), List.take_of_length_le (by omega), List.drop_append, e, List.nil_append, hl, List.drop_replicate, ← List.take_add]
  congr 2
  omega
theorem fill_wd {F : List UInt8} (hF : F.length = 240) {i j : Nat} (hi : i ≤ 60) (hj : j < i) : wd (fill F 240 (4 * i)) j = wd F j := by
  rw [← wd_take F hj]
  unfold fill wd
  rw [List.drop_append_of_le_length (by simp; omega), List.take_append_of_le_length (by simp; omega)]

end Go.Proofs.Ytbgdckhadfcnbaa

/-
  Plain mathematics of layer 6: blocks of a nonce and a number, a text under them, the tag; there and back. Conditions: a key's 240 bytes, a nonce of 12; nothing of the program.
-/
namespace Go.Proofs.Ytbgdckhadfcnbaa

/-- The sealed block of a nonce and a number. -/
def ctrK (K nonce : List UInt8) (n : Nat) : List UInt8 := aesL K (nonce ++ putL n 4)
theorem ctrK_length {K nonce : List UInt8} (hK : K.length = 240) (hn : nonce.length = 12) (n : Nat) : (ctrK K nonce n).length = 16 :=
  blkS_length hK (by rw [List.length_append, hn, putL_length]) (Nat.le_refl _)
/-- The element of a key. -/
def hKey (K : List UInt8) : Fe := feB (aesL K (List.replicate 16 0))
/-- A text under blocks, behind k of them. -/
def strm (K nonce l : List UInt8) : Nat → List UInt8
  | 0 => []
  | k + 1 => strm K nonce l k ++ xorL ((l.drop (16 * k)).take 16) (ctrK K nonce (2 + k))
def strL (K nonce l : List UInt8) : List UInt8 := strm K nonce l ((l.length + 15) / 16)
/-- Its i-th byte. -/
def strB (K nonce l : List UInt8) (i : Nat) : UInt8 := l.getD i 0 ^^^ (ctrK K nonce (2 + i / 16)).getD (i % 16) 0
theorem xorG {l m : List UInt8} {i : Nat} (h1 : i < l.length) (h2 : i < m.length) : (xorL l m)[i]? = some (l.getD i 0 ^^^ m.getD i 0) := by
  unfold xorL
  rw [List.getElem?_zipWith, List.getElem?_eq_getElem h1, List.getElem?_eq_getElem h2, List.getD_eq_getElem?_getD, List.getElem?_eq_getElem h1, List.getD_eq_getElem?_getD, List.getElem?_eq_getElem h2]
  rfl
theorem strm_is {K nonce l : List UInt8} (hK : K.length = 240) (hn : nonce.length = 12) (k : Nat) : strm K nonce l k = (List.range (min (16 * k) l.length)).map (strB K nonce l) := by
  induction k with
  | zero => simp [strm]
  | succ k ih =>
    have hc := ctrK_length hK hn (2 + k)
    have hx : (xorL ((l.drop (16 * k)).take 16) (ctrK K nonce (2 + k))).length = min 16 (l.length - 16 * k) := by
      unfold xorL
      rw [List.length_zipWith, hc, List.length_take, List.length_drop]
      omega
    rw [strm, ih]
    apply List.ext_getElem?
    intro i
    by_cases h1 : i < min (16 * k) l.length
    · rw [List.getElem?_append_left (by simp; omega)]
      rw [List.getElem?_map, List.getElem?_map, List.getElem?_range h1, List.getElem?_range (by omega)]
    · rw [List.getElem?_append_right (by simp; omega)]
      rw [List.length_map, List.length_range]
      by_cases h2 : i < min (16 * (k + 1)) l.length
      · have hq : min (16 * k) l.length = 16 * k := by omega
        rw [hq, List.getElem?_map, List.getElem?_range h2]
        have h3 : i - 16 * k < ((l.drop (16 * k)).take 16).length := by rw [List.length_take, List.length_drop]; omega
        rw [xorG h3 (by rw [hc]; omega), Option.map_some]
        unfold strB
        rw [show 2 + i / 16 = 2 + k from by omega, show i % 16 = i - 16 * k from by omega]
        rw [show ((l.drop (16 * k)).take 16).getD (i - 16 * k) 0 = l.getD i 0 from by
          rw [List.getD_eq_getElem?_getD, List.getElem?_take_of_lt (by omega), List.getElem?_drop, List.getD_eq_getElem?_getD, show 16 * k + (i - 16 * k) = i from by omega]]
      · rw [List.getElem?_eq_none (by rw [hx]; omega), List.getElem?_eq_none (by simp; omega)]
theorem strL_is {K nonce l : List UInt8} (hK : K.length = 240) (hn : nonce.length = 12) : strL K nonce l = (List.range l.length).map (strB K nonce l) := by
  unfold strL
  rw [strm_is hK hn, show min (16 * ((l.length + 15) / 16)) l.length = l.length from by omega]
theorem strL_length {K nonce l : List UInt8} (hK : K.length = 240) (hn : nonce.length = 12) : (strL K nonce l).length = l.length := by
  rw [strL_is hK hn]
  simp
/-- There and back. -/
theorem strL_back {K nonce l : List UInt8} (hK : K.length = 240) (hn : nonce.length = 12) : strL K nonce (strL K nonce l) = l := by
  rw [strL_is hK hn (l := strL K nonce l), strL_length hK hn]
  apply List.ext_getElem (by simp)
  intro i h1 h2
  rw [List.getElem_map, List.getElem_range]
  unfold strB
  rw [show (strL K nonce l).getD i 0 = strB K nonce l i from by
    rw [strL_is hK hn, List.getD_eq_getElem?_getD, List.getElem?_map, List.getElem?_range h2]
    rfl]
  unfold strB
  rw [UInt8.xor_assoc, UInt8.xor_self, UInt8.xor_zero, List.getD_eq_getElem?_getD, List.getElem?_eq_getElem h2]
  rfl
/-- Eight times the lengths of two rows. -/
def lens (a b : List UInt8) : List UInt8 := putL (8 * a.length) 8 ++ putL (8 * b.length) 8
theorem lens_length (a b : List UInt8) : (lens a b).length = 16 := by
  unfold lens
  rw [List.length_append, putL_length, putL_length]
/-- The tag of what is sealed. -/
def tagL (K nonce beside s : List UInt8) : List UInt8 := xorL (byF (hashF (hKey K) (hashF (hKey K) (hashF (hKey K) 0 beside) s) (lens beside s))) (ctrK K nonce 1)
theorem tagL_length {K nonce : List UInt8} (hK : K.length = 240) (hn : nonce.length = 12) (beside s : List UInt8) : (tagL K nonce beside s).length = 16 := by
  unfold tagL xorL
  rw [List.length_zipWith, byF_length, ctrK_length hK hn]
  rfl
def sealL (K nonce beside text : List UInt8) : List UInt8 := strL K nonce text ++ tagL K nonce beside (strL K nonce text)
theorem sealL_length {K nonce : List UInt8} (hK : K.length = 240) (hn : nonce.length = 12) (beside text : List UInt8) : (sealL K nonce beside text).length = text.length + 16 := by
  unfold sealL
  rw [List.length_append, strL_length hK hn, tagL_length hK hn]

end Go.Proofs.Ytbgdckhadfcnbaa

/-
  The contract of layer 6's mask: the sealed block of a nonce and a number; and of how many bits a text has, in eight bytes. Conditions: the cipher lies where the pointer leads; a nonce of 12 bytes; a number below 2^32; a text of at most 900 bytes.
-/
namespace Go.Proofs.Ytbgdckhadfcnbaa
open Go.RowKit

/-- A literal of two slices in memory, in whatever world has grown of the one behind it. -/
theorem bss2 {w w' : World} {a1 a2 : Option Addr} {n1 c1 n2 c2 : Nat} {l1 l2 : List UInt8} (h1 : Bs w a1 n1 c1 l1) (h2 : Bs w a2 n2 c2 l2) (hg : Grows (w.alloc (.cells #[.slice a1 n1 c1, .slice a2 n2 c2] 22)) w') : Bss w' (some ⟨w.heap.size, 0, none⟩) 2 2 [l1, l2] :=
  (Bss.two h1 h2).below hg (Nat.le_refl _)

set_option maxRecDepth 100000 in
set_option maxHeartbeats 2000000 in
theorem oMask (w : World) {r : Nat} {K nonce : List UInt8} {an : Option Addr} {cn : Nat} (hC : Cip w r K) (hK : K.length = 240) (hn : Bs w an 12 cn nonce) (n : Nat) (hN : n < 4294967296) :
    Calls Try.prog 45 #[.pointer (some ⟨r, 0, none⟩), .slice an 12 cn, .int .u64 (n : Int)] w fun e w' => e = .returned (bv (ctrK K nonce n)) ∧ Below w.heap.size w w' := by
  have HNL : Hid (nonce.length = 12) := hn.len
  have hrl := hC.tab.lt
  have HPL : Hid ((putL n 4).length = 4) := putL_length 4 n
  have CP : Hid (∀ w, Calls Try.prog 49 #[.int .u64 (n : Int), .int .i64 4] w (Gives w (putL n 4))) := fun w => by
    have := oPut (n : Int) 4 w (by omega) (by omega) (by omega) (by omega)
    rw [Int.toNat_natCast] at this
    exact this
  have HX : Hid (ctrK K nonce n = aesL K (nonce ++ putL n 4)) := rfl
  have HXL : Hid ((ctrK K nonce n).length = 16) := ctrK_length hK HNL.out n
  have HBL : Hid ((nonce ++ putL n 4).length = 16) := by show _ = _; rw [List.length_append, HNL.out, HPL.out]
  generalize ctrK K nonce n = X at *
  generalize putL n 4 = P at *
  go_enter Try.func45, Try.ntmps45
  go_wp2_with fail
  obtain ⟨W, hW⟩ : ∃ W, W = (w.alloc (.cells z16 48)).alloc (.cells z16 48) := ⟨_, rfl⟩
  rw [← hW]
  have d0 : Blk W w.heap.size (cs (List.replicate 16 0)) 48 := by rw [hW]; exact (Blk.new w _ _).old _
  have d1 : Blk W (w.heap.size + 1) (cs (List.replicate 16 0)) 48 := by rw [hW]; exact Blk.newAt (w.alloc _) z16 _ _ (by simp) _ rfl
  have q0 : Below w.heap.size w W := by rw [hW]; exact below2 w _ _
  have hC0 := hC.below q0 hrl
  have hn0 := hn.below q0 (Nat.le_refl _)
  clear hW
  refine regionG (S := fun _ => True) (by kernel_rfl) trivial ?_
  refine takeG 0 (some 8) (.slice (some ⟨w.heap.size + 1, 0, none⟩) 16 16) rfl rfl (by kernel_rfl) (by kernel_rfl) (by kernel_rfl) (fun _ _ _ h => h) (ans_all (.tmp 7) rfl (by rfl) (w.heap.size + 1) rfl) ?_
  simp only [Act.put, List.setIfInBounds_toArray, List.set_cons_zero, List.set_cons_succ]
  refine takeG 1 (some 9) (.slice an 12 cn) rfl rfl (by kernel_rfl) (by kernel_rfl) (by kernel_rfl) (fun _ _ _ h => h) (ans_plain (by rfl) (fun w _ => rfl)) ?_
  simp only [Act.put, List.setIfInBounds_toArray, List.set_cons_zero, List.set_cons_succ]
  refine takeG 2 (some 10) (.int .u64 (n : Int)) rfl rfl (by kernel_rfl) (by kernel_rfl) (by kernel_rfl) (fun _ _ _ h => h) (ans_plain (by rfl) (fun w _ => rfl)) ?_
  simp only [Act.put, List.setIfInBounds_toArray, List.set_cons_zero, List.set_cons_succ]
  refine callG 3 (some 11) 49 #[.tmp 10, .const (.int .i64 4)] #[57, 3] #[.int .u64 (n : Int), .int .i64 4] rfl rfl rfl (by rfl) (by rfl) (by kernel_rfl) Try.call49 fun u1 hg1 _ => ?_
  have g1 : Grows W u1 := Grows.trans (Below.refl _ W).drew hg1
  refine (CP.out u1).mono ?_
  rintro e u2 ⟨p2, m2, x2, rfl, ho2, hG2⟩
  have g2 : Grows W u2 := Grows.trans g1 hG2
  refine ⟨_, rfl, trivial, ?_⟩
  simp only [Act.put, List.setIfInBounds_toArray, List.set_cons_zero, List.set_cons_succ]
  refine oneG 4 (by kernel_rfl) fun u3 hg3 _ => ?_
  have g3 : Grows W u3 := Grows.trans g2 hg3
  refine opBS2 (some 12) rfl rfl rfl (.tmp 9) (.tmp 11) rfl an p2 12 cn m2 x2 rfl rfl ?_
  refine ⟨trivial, ?_⟩
  simp only [Act.put, List.setIfInBounds_toArray, List.set_cons_zero, List.set_cons_succ]
  refine callG 5 (some 13) 26 #[.tmp 12] #[34] #[.slice (some ⟨u3.heap.size, 0, none⟩) 2 2] rfl rfl rfl (by rfl) (by rfl) (by kernel_rfl) Try.call26 fun u4 hg4 _ => ?_
  have g4 : Grows W u4 := Grows.trans g3 (Grows.trans (Grows.alloc _ _) hg4)
  refine (oJoinB u4 (bss2 (hn0.grows g3) (ho2.toBs.grows hg3) hg4) (by rw [HNL.out, HPL.out]; omega)).mono ?_
  rintro e u5 ⟨p5, m5, x5, rfl, ho5, hG5⟩
  have g5 : Grows W u5 := Grows.trans g4 hG5
  have hm5 : m5 = 16 := by rw [← ho5.toBs.len]; exact HBL.out
  subst hm5
  refine ⟨_, rfl, trivial, ?_⟩
  simp only [Act.put, List.setIfInBounds_toArray, List.set_cons_zero, List.set_cons_succ]
  refine oneG 6 (by kernel_rfl) fun u6 hg6 _ => ?_
  have g6 : Grows W u6 := Grows.trans g5 hg6
  have d6 := d1.grows g6
  refine opCp (some 14) rfl rfl rfl (.tmp 8) (.tmp 13) rfl (w.heap.size + 1) 0 16 16 rfl p5 16 x5 rfl _ (ho5.toBs.grows hg6) _ _ d6 16 rfl (by rw [cs_length]; simp) (by omega) fun u7 hc7 => ⟨trivial, ?_⟩
  simp only [Act.put, List.setIfInBounds_toArray, List.set_cons_zero, List.set_cons_succ]
  have e7 : Blk u7 (w.heap.size + 1) (cs (nonce ++ P)) 48 := by
    have := hc7.blk
    rw [List.take_zero, List.nil_append, List.take_of_length_le (by rw [HBL.out]; omega), List.drop_eq_nil_of_le (by rw [cs_length]; simp), List.append_nil] at this
    exact this
  have d7 := hc7.other (d0.grows g6) (by omega)
  have q7 : Below w.heap.size w u7 := hc7.below (q0.trans (Below.mono g6 q0.size)) (by omega) (Nat.le_trans q0.size (Below.size g6))
  have C7 := hC.below q7 hrl
  clear hc7
  refine doneG (by kernel_rfl) fun u8 hg8 _ => ?_
  have e8 := e7.grows hg8
  have d8 := d7.grows hg8
  have q8 : Below w.heap.size w u8 := q7.trans (Below.mono hg8 q7.size)
  have C8 := C7.below hg8 (Nat.lt_of_lt_of_le hrl q7.size)
  generalize nonce ++ P = B at *
  clear e7 d7 q7 C7 g6 g5 g4 g3 g2 g1 hG5 hG2 hg1 hg3 hg4 hg6 hg8 d6
  go_wp2_with fail
  refine regionG (S := fun x => Blk x (w.heap.size + 1) (cs B) 48 ∧ Cip x r K) (by kernel_rfl) ⟨e8.dr, C8.dr⟩ ?_
  refine takeG 0 (some 15) (.pointer (some ⟨r, 0, none⟩)) rfl rfl (by kernel_rfl) (by kernel_rfl) (by kernel_rfl) (fun _ _ _ h => h) (ans_plain (by rfl) (fun w _ => rfl)) ?_
  simp only [Act.put, List.setIfInBounds_toArray, List.set_cons_zero, List.set_cons_succ]
  refine takeG 1 (some 16) (.pointer (some ⟨r, 0, none⟩)) rfl rfl (by kernel_rfl) (by kernel_rfl) (by kernel_rfl) (fun _ _ _ h => h) (ans_plain (by rfl) (fun w _ => rfl)) ?_
  simp only [Act.put, List.setIfInBounds_toArray, List.set_cons_zero, List.set_cons_succ]
  refine takeG 2 (some 17) (.pointer (some ⟨r, 0, none⟩)) rfl rfl (by kernel_rfl) (by kernel_rfl) (by kernel_rfl) (fun _ _ _ h => h) (ans_plain (by rfl) (fun w _ => by unfold execOp; go_simp)) ?_
  simp only [Act.put, List.setIfInBounds_toArray, List.set_cons_zero, List.set_cons_succ]
  refine takeG 3 (some 18) (bv B) rfl rfl (by kernel_rfl) (by kernel_rfl) (by kernel_rfl) (fun _ _ _ h => h) (ans_ld16 (.tmp 7) rfl (by rfl) (w.heap.size + 1) B HBL.out rfl (fun w h => h.1)) ?_
  simp only [Act.put, List.setIfInBounds_toArray, List.set_cons_zero, List.set_cons_succ]
  refine takeG 4 (some 19) (bv X) rfl rfl (by kernel_rfl) (by kernel_rfl) (by kernel_rfl) (fun _ _ _ h => h) (ans_call 19 #[.tmp 17, .tmp 18] #[56, 48] #[.pointer (some ⟨r, 0, none⟩), bv B] rfl (by rfl) (by rfl) Try.call19 fun u h => (oBlock u r K h.2 hK B HBL.out).mono fun _ _ hh => ⟨by rw [HX.out]; exact hh.1, hh.2, h.1.grows hh.2, h.2.below hh.2 h.2.tab.lt⟩) ?_
  simp only [Act.put, List.setIfInBounds_toArray, List.set_cons_zero, List.set_cons_succ]
  refine oneG 5 (by kernel_rfl) fun u9 hg9 hs9 => ?_
  have g9 : Grows u8 u9 := Grows.trans (Below.refl _ u8).drew hg9
  have d9 := d8.grows g9
  refine opSt16 5 (.tmp 6) (.tmp 19) rfl rfl rfl rfl w.heap.size X HXL.out _ (by rw [cs_length]; rfl) d9 rfl rfl fun ua ba oa la => ?_
  have qa : Below w.heap.size w ua := la _ _ (Nat.le_refl _) (q8.trans (Below.mono g9 q8.size))
  refine ⟨⟨oa _ _ _ (by omega) hs9.1, hC.below qa hrl⟩, ?_⟩
  refine doneG (by kernel_rfl) fun ub hgb hsb => ?_
  have bb := ba.grows hgb
  have B2 : Hid (Blk ub w.heap.size (cs X) 48) := bb
  have HC : Hid ((cs X).length = 16) := by show _ = _; rw [cs_length, HXL.out]
  have qb : Below w.heap.size w ub := qa.trans (Below.mono hgb qa.size)
  clear bb
  go_wp2_with fail
  exact bodyPost_ret (v := bv X) (res_blk Try.results45 _ _ w.heap.size _ _ _ rfl B2.out Try.underlying48 16 HC.out sizeK) rfl ⟨rfl, qb⟩

set_option maxHeartbeats 1000000 in
theorem oBitsT (w : World) {a : Option Addr} {n c : Nat} (hz : n ≤ 900) : Calls Try.prog 48 #[.slice a n c] w (Gives w (putL (8 * n) 8)) := by
  have CP : Hid (∀ w, Calls Try.prog 49 #[.int .u64 (8 * (n : Int)), .int .i64 8] w (Gives w (putL (8 * n) 8))) := fun w => by
    have := oPut ((8 * n : Nat) : Int) 8 w (by omega) (by omega) (by omega) (by omega)
    rw [Int.toNat_natCast, show ((8 * n : Nat) : Int) = 8 * (n : Int) from by omega] at this
    exact this
  have i1 : IntKind.u64.wrap (n : Int) = (n : Int) := by rw [IntKind.wrap_u64]; omega
  have i3 : (n : Int) % 18446744073709551616 = (n : Int) := by omega
  have i5 : IntKind.u64.wrap (8 * (n : Int)) = 8 * (n : Int) := by rw [IntKind.wrap_u64]; omega
  have i7 : 8 * (n : Int) % 18446744073709551616 = 8 * (n : Int) := by omega
  generalize putL (8 * n) 8 = X at *
  go_enter Try.func48, Try.ntmps48
  go_wp2_with fail
  refine (CP.out w).mono ?_
  rintro e w2 ⟨a2, m2, c2, rfl, ho2, hb2⟩
  go_wp2
  go_ret
  exact Gives.mk ho2 hb2

end Go.Proofs.Ytbgdckhadfcnbaa

/-
  A table in memory: sixteen elements. The contract of Build. No condition.
-/
namespace Go.Proofs.Ytbgdckhadfcnbaa
open Go.RowKit

/-- Block g holds sixteen elements, the i-th one f i. -/
def Tb (w : World) (g : Nat) (f : Nat → Fe) : Prop :=
  ∃ vs : List Value, Blk w g vs 62 ∧ vs.length = 32 ∧ ∀ i, i < 16 → vs[i * 2]? = some (.int .u64 (hN (f i) : Int)) ∧ vs[i * 2 + 1]? = some (.int .u64 (lN (f i) : Int))
theorem Tb.lt {w : World} {g : Nat} {f : Nat → Fe} (h : Tb w g f) : g < w.heap.size := h.choose_spec.1.lt
theorem Tb.hi {w : World} {g : Nat} {f : Nat → Fe} (h : Tb w g f) {i : Nat} (hi : i < 16) : w.cell? ⟨g, i * 2, none⟩ = some (.int .u64 (hN (f i) : Int)) := by
  obtain ⟨vs, hb, _, hc⟩ := h
  rw [hb.cell, (hc i hi).1]
theorem Tb.lo {w : World} {g : Nat} {f : Nat → Fe} (h : Tb w g f) {i : Nat} (hi : i < 16) : w.cell? ⟨g, i * 2 + 1, none⟩ = some (.int .u64 (lN (f i) : Int)) := by
  obtain ⟨vs, hb, _, hc⟩ := h
  rw [hb.cell, (hc i hi).2]
theorem Tb.free {w : World} {g : Nat} {f : Nat → Fe} (h : Tb w g f) (i : Nat) : w.frozen? ⟨g, i, none⟩ = false := by
  obtain ⟨vs, hb, _, _⟩ := h
  exact hb.free i
theorem Tb.below {w w' : World} {g : Nat} {f : Nat → Fe} (h : Tb w g f) {B : Nat} (hb : Below B w w') (hB : g < B) : Tb w' g f := by
  obtain ⟨vs, h1, h2⟩ := h
  exact ⟨vs, h1.below hb hB, h2⟩
theorem Tb.dr {w : World} {g : Nat} {f : Nat → Fe} (h : Tb w g f) : Tb w.drew g f := h
theorem Tb.setO {w : World} {g : Nat} {f : Nat → Fe} (h : Tb w g f) {p : Addr} (hp : g ≠ p.block) (u : Value) : Tb (w.setCell p u) g f := by
  obtain ⟨vs, h1, h2⟩ := h
  exact ⟨vs, h1.setO hp u, h2⟩
theorem Tb.congr {w : World} {g : Nat} {f f' : Nat → Fe} (h : Tb w g f) (e : ∀ i, i < 16 → f i = f' i) : Tb w g f' := by
  obtain ⟨vs, h1, h2, h3⟩ := h
  exact ⟨vs, h1, h2, fun i hi => by rw [← e i hi]; exact h3 i hi⟩
theorem Tb.set {w : World} {g : Nat} {f : Nat → Fe} (h : Tb w g f) {k : Nat} (hk : k < 16) (a : Fe) :
    Tb ((w.setCell ⟨g, k * 2, none⟩ (.int .u64 (hN a : Int))).setCell ⟨g, k * 2 + 1, none⟩ (.int .u64 (lN a : Int))) g (fun i => if i = k then a else f i) := by
  obtain ⟨vs, h1, h2, h3⟩ := h
  refine ⟨_, (h1.setC (k * 2) _).setC (k * 2 + 1) _, by simpa using h2, fun i hi => ?_⟩
  by_cases e : i = k
  · subst e
    simp only [if_true]
    constructor
    · rw [List.getElem?_set_ne (by omega), List.getElem?_set_self (by omega)]
    · rw [List.getElem?_set_self (by simp; omega)]
  · simp only [if_neg e]
    rw [List.getElem?_set_ne (by omega), List.getElem?_set_ne (by omega), List.getElem?_set_ne (by omega), List.getElem?_set_ne (by omega)]
    exact h3 i hi

/-- The places that the first loop fills, behind k rounds. -/
def isP (k i : Nat) : Bool := (i == 8 && decide (0 < k)) || (i == 4 && decide (1 < k)) || (i == 2 && decide (2 < k)) || (i == 1 && decide (3 < k))
def f1 (h : Fe) (k i : Nat) : Fe := if isP k i then pr h i else 0
def f2 (h : Fe) (k i : Nat) : Fe := if decide (i < k) || isP 4 i then pr h i else 0
theorem pr_0 (h : Fe) : pr h 0 = 0 := by simp [pr]
theorem pr_1 (h : Fe) : pr h 1 = txN h 3 := by unfold pr; rw [show Nat.testBit 1 3 = false from by decide, show Nat.testBit 1 2 = false from by decide, show Nat.testBit 1 1 = false from by decide, show Nat.testBit 1 0 = true from by decide]; simp
theorem pr_2 (h : Fe) : pr h 2 = txN h 2 := by unfold pr; rw [show Nat.testBit 2 3 = false from by decide, show Nat.testBit 2 2 = false from by decide, show Nat.testBit 2 1 = true from by decide, show Nat.testBit 2 0 = false from by decide]; simp
theorem pr_4 (h : Fe) : pr h 4 = txN h 1 := by unfold pr; rw [show Nat.testBit 4 3 = false from by decide, show Nat.testBit 4 2 = true from by decide, show Nat.testBit 4 1 = false from by decide, show Nat.testBit 4 0 = false from by decide]; simp
theorem pr_8 (h : Fe) : pr h 8 = h := by unfold pr; rw [show Nat.testBit 8 3 = true from by decide, show Nat.testBit 8 2 = false from by decide, show Nat.testBit 8 1 = false from by decide, show Nat.testBit 8 0 = false from by decide]; simp
theorem pr_add (h : Fe) {a b : Nat} (ha : a < 16) (hb : b < 16) (hab : a ^^^ b < 16) : pr h a ^^^ pr h b = pr h (a ^^^ b) := by
  have := pr_xor h a b 0
  rw [Nat.pow_zero, Nat.div_one, Nat.div_one, Nat.div_one, Nat.mod_eq_of_lt ha, Nat.mod_eq_of_lt hb, Nat.mod_eq_of_lt hab] at this
  exact this.symm
theorem isP_step {k : Nat} (hk : k < 4) {i : Nat} (hi : i < 16) : isP (k + 1) i = (decide (i = 8 / 2 ^ k) || isP k i) := by
  have : ∀ k : Fin 4, ∀ i : Fin 16, isP (k.val + 1) i.val = (decide (i.val = 8 / 2 ^ k.val) || isP k.val i.val) := by decide +kernel
  exact this ⟨k, hk⟩ ⟨i, hi⟩
theorem pr_pow (h : Fe) {k : Nat} (hk : k < 4) : pr h (8 / 2 ^ k) = txN h k := by
  rcases (by omega : k = 0 ∨ k = 1 ∨ k = 2 ∨ k = 3) with rfl | rfl | rfl | rfl
  · exact pr_8 h
  · exact pr_4 h
  · exact pr_2 h
  · exact pr_1 h
theorem f1_step (h : Fe) {k : Nat} (hk : k < 4) {i : Nat} (hi : i < 16) : (if i = 8 / 2 ^ k then txN h k else f1 h k i) = f1 h (k + 1) i := by
  unfold f1
  rw [isP_step hk hi]
  by_cases e : i = 8 / 2 ^ k
  · rw [if_pos e, decide_eq_true e, Bool.true_or, if_pos rfl, e, pr_pow h hk]
  · rw [if_neg e, decide_eq_false e, Bool.false_or]
theorem f12 (h : Fe) {i : Nat} : f1 h 4 i = f2 h 1 i := by
  unfold f1 f2
  by_cases e : i = 0
  · subst e
    rw [pr_0]
    simp
  · rw [show decide (i < 1) = false from by simp; omega, Bool.false_or]
theorem f2_step (h : Fe) {k : Nat} {i : Nat} : (if i = k then pr h k else f2 h k i) = f2 h (k + 1) i := by
  unfold f2
  by_cases e : i = k
  · subst e
    rw [if_pos rfl, show decide (i < i + 1) = true from by simp, Bool.true_or, if_pos rfl]
  · rw [if_neg e]
    have : decide (i < k + 1) = decide (i < k) := by
      by_cases hl : i < k
      · rw [decide_eq_true hl, decide_eq_true (by omega)]
      · rw [decide_eq_false hl, decide_eq_false (by omega)]
    rw [this]
theorem f2_end (h : Fe) {i : Nat} (hi : i < 16) : f2 h 16 i = pr h i := by
  unfold f2
  rw [decide_eq_true hi, Bool.true_or, if_pos rfl]
theorem f2_low (h : Fe) {k i : Nat} (hi : i < k) : f2 h k i = pr h i := by
  unfold f2
  rw [decide_eq_true hi, Bool.true_or, if_pos rfl]
theorem f2_pow (h : Fe) {k i : Nat} (hi : isP 4 i = true) : f2 h k i = pr h i := by
  unfold f2
  rw [hi, Bool.or_true, if_pos rfl]
/-- The last bit of a number. -/
def lastB (k : Nat) : Nat := if k % 2 = 1 then 1 else if k % 4 = 2 then 2 else if k % 8 = 4 then 4 else 8
theorem last_ok {k : Nat} (h1 : 1 ≤ k) (h2 : k < 16) : bits .and .i64 (k : Int) (-(k : Int)) = (lastB k : Int) ∧ 0 < lastB k ∧ lastB k ≤ k ∧ isP 4 (lastB k) = true ∧ (k - lastB k) ^^^ lastB k = k := by
  have : ∀ k : Fin 16, 1 ≤ k.val → bits .and .i64 (k.val : Int) (-(k.val : Int)) = (lastB k.val : Int) ∧ 0 < lastB k.val ∧ lastB k.val ≤ k.val ∧ isP 4 (lastB k.val) = true ∧ (k.val - lastB k.val) ^^^ lastB k.val = k.val := by decide +kernel
  exact this ⟨k, h2⟩ h1

abbrev z32 : Array Value := #[.int .u64 0, .int .u64 0, .int .u64 0, .int .u64 0, .int .u64 0, .int .u64 0, .int .u64 0, .int .u64 0, .int .u64 0, .int .u64 0, .int .u64 0, .int .u64 0, .int .u64 0, .int .u64 0, .int .u64 0, .int .u64 0, .int .u64 0, .int .u64 0, .int .u64 0, .int .u64 0, .int .u64 0, .int .u64 0, .int .u64 0, .int .u64 0, .int .u64 0, .int .u64 0, .int .u64 0, .int .u64 0, .int .u64 0, .int .u64 0, .int .u64 0, .int .u64 0]
theorem f1_zero (h : Fe) (i : Nat) (hi : i < 16) : z32.toList[i * 2]? = some (.int .u64 (hN (f1 h 0 i) : Int)) ∧ z32.toList[i * 2 + 1]? = some (.int .u64 (lN (f1 h 0 i) : Int)) := by
  have e : f1 h 0 i = 0 := by unfold f1 isP; simp
  obtain ⟨z1, z2⟩ := (zero_iff 0).1 rfl
  rw [e, z1, z2]
  rw [show z32.toList = List.replicate 32 (.int .u64 0) from rfl, List.getElem?_replicate, List.getElem?_replicate, if_pos (by omega), if_pos (by omega)]
  exact ⟨rfl, rfl⟩
set_option maxRecDepth 100000 in
set_option maxHeartbeats 2000000 in
theorem oBuildF (w : World) (h : Fe) : Calls Try.prog 20 #[ev h] w fun e w' => ∃ g, e = .returned (.pointer (some ⟨g, 0, none⟩)) ∧ w.heap.size ≤ g ∧ Tb w' g (pr h) ∧ Below w.heap.size w w' := by
  have C1 : Hid (∀ w a, Calls Try.prog 40 #[.agg #[.int .u64 (hN a : Int), .int .u64 (lN a : Int)], .int .i64 1] w fun e w' => e = .returned (.agg #[.int .u64 (hN (tx a) : Int), .int .u64 (lN (tx a) : Int)]) ∧ Below w.heap.size w w') := fun w a => oRaise1 w a
  have C2 : Hid (∀ w a b, Calls Try.prog 41 #[.agg #[.int .u64 (hN a : Int), .int .u64 (lN a : Int)], .agg #[.int .u64 (hN b : Int), .int .u64 (lN b : Int)]] w fun e w' => e = .returned (.agg #[.int .u64 (hN (a ^^^ b) : Int), .int .u64 (lN (a ^^^ b) : Int)]) ∧ Below w.heap.size w w') := fun w a b => oAddE w a b
  unfold ev
  go_enter Try.func20, Try.ntmps20
  go_wp2_with fail
  obtain ⟨W, hW⟩ : ∃ W, W = (w.alloc (.cells #[.int .u64 (hN h : Int), .int .u64 (lN h : Int)] 59)).alloc (.cells z32 62) := ⟨_, rfl⟩
  rw [← hW]
  have b0 : Blk W w.heap.size (ec h) 59 := by rw [hW]; exact (Blk.new w _ _).old _
  have b1 : Tb W (w.heap.size + 1) (f1 h 0) := by rw [hW]; exact ⟨z32.toList, Blk.newAt (w.alloc _) z32 _ _ (by simp) _ rfl, rfl, f1_zero h⟩
  have hb0 : Below w.heap.size w W := by rw [hW]; exact below2 w _ _
  clear hW
  go_loopw [4] (fun i wr => ∃ k m : Nat, k ≤ 4 ∧ m = 8 / 2 ^ k ∧ i = .int .i64 m ∧ Blk wr w.heap.size (ec (txN h k)) 59 ∧ Tb wr (w.heap.size + 1) (f1 h k) ∧ Below w.heap.size w wr) (fun i _ => (intOf i).toNat)
  case atStart => exact ⟨0, 8, by omega, rfl, rfl, b0, b1, hb0⟩
  case round =>
    clear b0 b1 hb0
    obtain ⟨k, m, hk, hm, rfl, b0, b1, hb0⟩ := hrel
    by_cases hlt : k < 4
    · obtain ⟨m0, m16, hm'⟩ : 0 < m ∧ m < 16 ∧ m / 2 = 8 / 2 ^ (k + 1) := by
        rcases (by omega : k = 0 ∨ k = 1 ∨ k = 2 ∨ k = 3) with rfl | rfl | rfl | rfl <;> (subst hm; decide)
      have HM : Hid (m / 2 = 8 / 2 ^ (k + 1)) := hm'
      have HS := b1.set m16 (txN h k)
      have HT := HS.congr (f' := f1 h (k + 1)) (fun i hi => by rw [hm]; exact f1_step h hlt hi)
      have i0 : (0 : Int) < (m : Int) := by omega
      have i1 : (m : Int) < 16 := by omega
      have i2 : (m : Int).tdiv 2 = ((m / 2 : Nat) : Int) := by rw [Int.tdiv_eq_ediv_of_nonneg (by omega)]; omega
      have i3 : (m : Int) / 2 = ((m / 2 : Nat) : Int) := by omega
      have i5 : IntKind.i64.wrap ((m : Int).tdiv 2) = ((m / 2 : Nat) : Int) := by rw [i2, IntKind.wrap_i64]; omega
      obtain ⟨m2, hm2⟩ : ∃ m2, m2 = m / 2 := ⟨_, rfl⟩
      rw [← hm2] at i2 i3 i5 HM
      have HM2 : Hid (m2 = m / 2) := hm2
      clear hm2
      have i4 : (0 : Int) ≤ (m : Int) := by omega
      have c0 := b0.cell 0
      have c1 := b0.cell 1
      simp only [ec, List.getElem?_cons_zero, List.getElem?_cons_succ] at c0 c1
      have t0 := b1.hi m16
      have t1 := b1.lo m16
      have t2 := b1.free (m * 2)
      have t3 := b1.free (m * 2 + 1)
      obtain ⟨w1, hw1⟩ : ∃ w1, w1 = ((wr.setCell ⟨w.heap.size + 1, m * 2, none⟩ (.int .u64 (hN (txN h k) : Int))).setCell ⟨w.heap.size + 1, m * 2 + 1, none⟩ (.int .u64 (lN (txN h k) : Int))).drew := ⟨_, rfl⟩
      have HT' : Hid (Tb w1 (w.heap.size + 1) (f1 h (k + 1))) := by rw [hw1]; exact HT
      have d0 : Blk w1 w.heap.size (ec (txN h k)) 59 := by rw [hw1]; exact (b0.setO (by simp) _).setO (by simp) _
      have q1 : Below w.heap.size w w1 := by rw [hw1]; exact ((hb0.setCell (by simp) _).setCell (by simp) _).drew
      have HW : Hid (w1 = _) := hw1
      clear HS HT hm hm' hw1
      go_wp2_with fail
      go_region
      rw [← HW.out]
      have e0 := d0.cell 0
      have e1 := d0.cell 1
      have e2 := d0.free 0
      have e3 := d0.free 1
      simp only [ec, List.getElem?_cons_zero, List.getElem?_cons_succ] at e0 e1
      have hl := d0.lt
      clear c0 c1 t0 t1 t2 t3 b0 b1 hb0 HW
      go_wp2_with (go_at_call 40; go_must (refine (C1.out w1 (txN h k)).mono ?_); rintro e w2 ⟨rfl, hb2⟩; have d2 := d0.below hb2 hl; have c0 := d2.cell 0; have c1 := d2.cell 1; have c2 := d2.free 0; have c3 := d2.free 1; simp only [ec, List.getElem?_cons_zero, List.getElem?_cons_succ] at c0 c1)
      go_roundw
      case rel =>
        have d3 := (d2.setC 0 (.int .u64 (hN (tx (txN h k)) : Int))).setC 1 (.int .u64 (lN (tx (txN h k)) : Int))
        exact ⟨k + 1, m2, by omega, HM.out, rfl, d3, ((HT'.out.below hb2 HT'.out.lt).setO (by simp) _).setO (by simp) _, ((q1.trans (hb2.mono q1.size)).setCell (Nat.le_refl _) _).setCell (Nat.le_refl _) _⟩
      case measure => have := HM2.out; simp [intOf]; omega
    · obtain rfl : k = 4 := by omega
      have hm0 : m = 0 := by rw [hm]
      subst hm0
      have b2 := b1.congr (f' := f2 h 1) (fun i _ => f12 h)
      clear b1 hm
      go_wp2_with fail
      go_loopw [5, 6] (fun i _ wr => ∃ k : Nat, 1 ≤ k ∧ k ≤ 16 ∧ i = .int .i64 k ∧ Tb wr (w.heap.size + 1) (f2 h k) ∧ Below w.heap.size w wr) (fun i _ _ => 16 - (intOf i).toNat)
      case atStart => exact ⟨1, by omega, by omega, rfl, b2, hb0⟩
      case round =>
        clear b2 hb0 b0
        obtain ⟨k, hk1, hk2, rfl, b1, hb0⟩ := hrel
        by_cases hlt : k < 16
        · obtain ⟨hand, hl0, hlk, hlp, hlx⟩ := last_ok hk1 hlt
          generalize lastB k = z at *
          have HX : Hid (pr h (k - z) ^^^ pr h z = pr h k) := by
            show _ = _
            rw [pr_add h (by omega) (by omega) (by rw [hlx]; exact hlt), hlx]
          have HA : Hid (f2 h k (k - z) = pr h (k - z)) := f2_low h (by omega)
          have HZ : Hid (f2 h k z = pr h z) := f2_pow h hlp
          have p0 : (0 : Int) ≤ (k : Int) := by omega
          have p1 : (k : Int) < 16 := by omega
          have p2 : (0 : Int) ≤ (z : Int) := by omega
          have p3 : (z : Int) < 16 := by omega
          obtain ⟨y, hy⟩ : ∃ y, y = k - z := ⟨_, rfl⟩
          have p4 : (k : Int) - (z : Int) = (y : Int) := by omega
          have p5 : (0 : Int) ≤ (y : Int) := by omega
          have p6 : (y : Int) < 16 := by omega
          rw [← hy] at HX HA
          have p7 : IntKind.i64.wrap (y : Int) = (y : Int) := by rw [IntKind.wrap_i64]; omega
          have t0 := b1.hi (i := y) (by omega)
          have t1 := b1.lo (i := y) (by omega)
          rw [HA.out] at t0 t1
          have s0 := b1.hi (i := z) (by omega)
          have s1 := b1.lo (i := z) (by omega)
          rw [HZ.out] at s0 s1
          have r0 := b1.hi hlt
          have r1 := b1.lo hlt
          have r2 := b1.free (k * 2)
          have r3 := b1.free (k * 2 + 1)
          have hgl := b1.lt
          have HA' : Hid (f2 h (k + 1) y = pr h y) := f2_low h (by omega)
          have HZ' : Hid (f2 h (k + 1) z = pr h z) := f2_pow h hlp
          clear hlp hlx hy
          go_wp2_with fail
          go_region_held3 (fun w' => w'.cell? ⟨w.heap.size + 1, y * 2, none⟩ = some (.int .u64 (hN (pr h y) : Int)) ∧ w'.cell? ⟨w.heap.size + 1, y * 2 + 1, none⟩ = some (.int .u64 (lN (pr h y) : Int)) ∧ w'.cell? ⟨w.heap.size + 1, z * 2, none⟩ = some (.int .u64 (hN (pr h z) : Int)) ∧ w'.cell? ⟨w.heap.size + 1, z * 2 + 1, none⟩ = some (.int .u64 (lN (pr h z) : Int)))
            (first | (exact ⟨v0, v1, v2, v3⟩) | (exact ⟨u0, u1, u2, u3⟩) | (exact ⟨t0, t1, s0, s1⟩) | go_keep)
            ((go_at_call 41; go_must (refine (C2.out wr.drew (pr h y) (pr h z)).mono ?_); rw [HX.out]; rintro e w2 ⟨rfl, hb2⟩; have b2 := b1.dr.below hb2 hgl; have r0 := b2.hi hlt; have r1 := b2.lo hlt; have r2 := b2.free (k * 2); have r3 := b2.free (k * 2 + 1); have b3 := (b2.set hlt (pr h k)).congr (f' := f2 h (k + 1)) (fun i _ => f2_step h); have u0 := b2.hi (i := y) (by omega); have u1 := b2.lo (i := y) (by omega); have u2 := b2.hi (i := z) (by omega); have u3 := b2.lo (i := z) (by omega); rw [HA.out] at u0 u1; rw [HZ.out] at u2 u3; have v0 := b3.hi (i := y) (by omega); have v1 := b3.lo (i := y) (by omega); have v2 := b3.hi (i := z) (by omega); have v3 := b3.lo (i := z) (by omega); rw [HA'.out] at v0 v1; rw [HZ'.out] at v2 v3))
          go_wp2_with fail
          go_roundw
          case rel =>
            (repeat apply Exists.intro)
            refine ⟨?_, rfl⟩
            exact ⟨k + 1, by omega, by omega, by go_num, b3, ((hb0.drew.trans (hb2.mono hb0.size)).setCell (by simp) _).setCell (by simp) _⟩
          case measure => simp [intOf]; omega
        · obtain rfl : k = 16 := by omega
          go_wp2_with fail
          go_ret
          exact ⟨w.heap.size + 1, rfl, by omega, b1.congr fun i hi => f2_end h hi, hb0⟩

end Go.Proofs.Ytbgdckhadfcnbaa
