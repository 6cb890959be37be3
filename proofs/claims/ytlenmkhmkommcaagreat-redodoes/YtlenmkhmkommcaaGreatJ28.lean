/-
  4 texts in one. No statement of the seat is proved here.
-/
import Derived.Test.YtlenmkhmkommcaaGreatJ27

/-
  Layer 12's reference's sealer in memory ('RS'); contracts of its Nonce and known. Conditions: a book of at most a thousand things.
-/
namespace Go.Proofs.YtlenmkhmkommcaaGreat
open Go.RowKit
set_option linter.unusedVariables false

def elE (A : Nat → Prop) (w : World) (e : Ent) (vs : List Value) : Prop := ∃ p0 m0 q0 p1 m1 q1 p2 m2 q2 p3 m3 q3 p4 m4 q4, vs = [.slice p0 m0 q0, .slice p1 m1 q1, .slice p2 m2 q2, .slice p3 m3 q3, .slice p4 m4 q4] ∧ BA A w p0 m0 q0 e.key ∧ BA A w p1 m1 q1 e.nonce ∧ BA A w p2 m2 q2 e.beside ∧ BA A w p3 m3 q3 e.text ∧ BA A w p4 m4 q4 e.sealed
def elD (A : Nat → Prop) (w : World) (c : Kid) (vs : List Value) : Prop := ∃ p0 m0 q0 p1 m1 q1 p2 m2 q2, vs = [.slice p0 m0 q0, .slice p1 m1 q1, .slice p2 m2 q2] ∧ BA A w p0 m0 q0 c.up ∧ BA A w p1 m1 q1 c.what ∧ BA A w p2 m2 q2 (noiseL c.num 32)
theorem elE.keep {A : Nat → Prop} {w w' : World} (hs : w.heap.size ≤ w'.heap.size) (hk : ∀ j, j < w.heap.size → A j → w'.heap[j]? = w.heap[j]?) : ∀ c vs, elE A w c vs → elE A w' c vs := by
  rintro c vs ⟨p0, m0, q0, p1, m1, q1, p2, m2, q2, p3, m3, q3, p4, m4, q4, e, h0, h1, h2, h3, h4⟩
  exact ⟨p0, m0, q0, p1, m1, q1, p2, m2, q2, p3, m3, q3, p4, m4, q4, e, h0.keep hs hk, h1.keep hs hk, h2.keep hs hk, h3.keep hs hk, h4.keep hs hk⟩
theorem elD.keep {A : Nat → Prop} {w w' : World} (hs : w.heap.size ≤ w'.heap.size) (hk : ∀ j, j < w.heap.size → A j → w'.heap[j]? = w.heap[j]?) : ∀ c vs, elD A w c vs → elD A w' c vs := by
  rintro c vs ⟨p0, m0, q0, p1, m1, q1, p2, m2, q2, e, h0, h1, h2⟩
  exact ⟨p0, m0, q0, p1, m1, q1, p2, m2, q2, e, h0.keep hs hk, h1.keep hs hk, h2.keep hs hk⟩
/-- The two slices of the reference's sealer. -/
structure Du where
  ba : Option Addr
  bn : Nat
  bc : Nat
  ca : Option Addr
  cn : Nat
  cc : Nat
/-- Its cells. -/
def rsC (S : SeaS) (d : Du) : List Value := [.bool S.ideal, .slice d.ba d.bn d.bc, .slice d.ca d.cn d.cc, .int .u64 (S.count : Int), .bool S.reused, .bool S.forged]
def rsV (S : SeaS) (d : Du) : Value := .agg (rsC S d).toArray
theorem rsC_one (S : SeaS) (d : Du) : ∀ v ∈ rsC S d, v.oneCell' = true := by
  intro v hv
  simp only [rsC, List.mem_cons, List.not_mem_nil, or_false] at hv
  rcases hv with rfl | rfl | rfl | rfl | rfl | rfl <;> rfl
/-- The reference's sealer. -/
structure RS (A : Nat → Prop) (w : World) (S : SeaS) (d : Du) : Prop where
  book : Sl (elE A) 5 A w d.ba d.bn d.bc S.book
  kids : Sl (elD A) 3 A w d.ca d.cn d.cc S.kids
theorem RS.keep {A : Nat → Prop} {w w' : World} {S : SeaS} {d : Du} (h : RS A w S d) (hs : w.heap.size ≤ w'.heap.size) (hk : ∀ j, j < w.heap.size → A j → w'.heap[j]? = w.heap[j]?) : RS A w' S d :=
  ⟨h.book.keep hs (elE.keep hs hk) hk, h.kids.keep hs (elD.keep hs hk) hk⟩
theorem RS.grow {A : Nat → Prop} {w w' : World} {S : SeaS} {d : Du} (h : RS A w S d) (hb : Below w.heap.size w w') : RS A w' S d := h.keep hb.size fun j hj _ => hb.block j hj
theorem RS.kp {A F : Nat → Prop} {w w' : World} {S : SeaS} {d : Du} (h : RS A w S d) (k : Kp F w w') (hA : ∀ j, A j → ¬ F j) : RS A w' S d := h.keep k.size fun j hj ha => k.block j hj (hA j ha)
theorem sizeRS : (Tryz.prog.info? 54).map (·.size) = some 6 := by kernel_rfl
theorem sizeEn5 : (Tryz.prog.info? 144).map (·.size) = some 5 := by kernel_rfl
set_option maxHeartbeats 1000000 in
theorem rNonce12 (w : World) (h l : Nat) (hh : h ≤ 18446744073709551615) (hl : l ≤ 4294967295) :
    Calls Tryz.prog 38 #[.int .u64 (h : Int), .int .u32 (l : Int)] w (Gives w (nonL h l)) := by
  have hl2 : (l : Int) ≤ 4294967295 := by omega
  go_enter Tryz.func38, Tryz.ntmps38
  go_wp2_with fail
  refine (rPut 8 (h : Int) 8 w (by omega) (by omega) (by omega) (by omega) (by omega)).mono ?_
  rintro e w1 ⟨a1, m1, c1, rfl, o1, hb1⟩
  go_wp2_with fail
  refine (rPut 4 (l : Int) 4 w1 (by omega) (by omega) (by omega) (by omega) (by omega)).mono ?_
  rintro e w2 ⟨a2, m2, c2, rfl, o2, hb2⟩
  have q2 := hb1.trans (hb2.mono hb1.size)
  have O1 : Own w2 w.heap.size (.slice a1 m1 c1) (putL (h : Int).toNat (8 : Int).toNat) := o1.below hb2 (Nat.le_refl _)
  have O2 := o2.toBs
  go_wp2_with (at_builtin; refine wpList_app _ rfl (.tmp 6) (.tmp 9) rfl w.heap.size _ _ rfl O1 _ _ _ _ rfl O2 (by simp [putL_length]) q2.size ?_; intro v3 w3 o3 hb3)
  go_ret
  rw [Int.toNat_natCast, Int.toNat_natCast] at o3
  exact Gives.mk o3 (q2.trans hb3)

/-- What known answers. -/
def Knows (A : Nat → Prop) (o : Option (List UInt8)) (w : World) (e : Ending) (w' : World) : Prop := ∃ a m c, e = .returned (.tuple #[.slice a m c, .bool o.isSome]) ∧ BA A w' a m c (o.getD []) ∧ Below w.heap.size w w'
theorem known_step {S : SeaS} {k n b s : List UInt8} {i : Nat} {e : Ent} (hi : S.book[i]? = some e) (hn : ∀ x ∈ S.book.take i, x.is k n b s = false) (he : e.is k n b s = true) : S.known k n b s = some e.text := by
  have hs : S.book = S.book.take i ++ e :: S.book.drop (i + 1) := by
    have hlt := (List.getElem?_eq_some_iff.1 hi).1
    rw [← (List.getElem?_eq_some_iff.1 hi).2, List.getElem_cons_drop hlt, List.take_append_drop]
  unfold SeaS.known
  rw [hs, List.find?_append, List.find?_eq_none.2 (fun x hx => by rw [hn x hx]; decide), Option.none_or, List.find?_cons, he]
  rfl
theorem known_none {S : SeaS} {k n b s : List UInt8} (hn : ∀ x ∈ S.book, x.is k n b s = false) : S.known k n b s = none := by
  unfold SeaS.known
  rw [List.find?_eq_none.2 (fun x hx => by rw [hn x hx]; decide)]
  rfl
theorem take_all {α : Type} {P : α → Prop} {l : List α} {i : Nat} {x : α} (hi : l[i]? = some x) (h : ∀ y ∈ l.take i, P y) (hx : P x) : ∀ y ∈ l.take (i + 1), P y := by
  intro y hy
  rw [List.take_add_one, hi] at hy
  rcases List.mem_append.1 hy with hy | hy
  · exact h y hy
  · simp at hy
    subst hy
    exact hx

end Go.Proofs.YtlenmkhmkommcaaGreat

/-
  The contract of layer 12's reference's known: the text of the first thing in the book that is so. Condition: a book of at most a thousand things.
-/
namespace Go.Proofs.YtlenmkhmkommcaaGreat
open Go.RowKit
set_option linter.unusedVariables false

theorem sameD (w : World) {a b : Option Addr} {n c n' c' : Nat} {l m : List UInt8} (ha : Bs w a n c l) (hb : Bs w b n' c' m) : Calls Tryz.prog 29 #[.slice a n c, .slice b n' c'] w fun e w' => e = .returned (.bool (decide (l = m))) ∧ Below w.heap.size w w' :=
  (rSame w ha hb).mono (by
    rintro e w' ⟨rfl, k', rfl⟩
    exact ⟨rfl, below_drewN' _ _⟩)

set_option maxRecDepth 100000 in
set_option maxHeartbeats 4000000 in
theorem rKnown12 (w : World) {A : Nat → Prop} {S : SeaS} {d : Du} (h : RS A w S d) {k n b s : List UInt8} {ak an ab as' : Option Addr} {nk ck nn cn nb cb ns cs' : Nat} (hk : Bs w ak nk ck k) (hn : Bs w an nn cn n) (hb : Bs w ab nb cb b) (hs : Bs w as' ns cs' s) (hz : S.book.length ≤ 1000) :
    Calls Tryz.prog 97 #[rsV S d, .slice ak nk ck, .slice an nn cn, .slice ab nb cb, .slice as' ns cs'] w (Knows A (S.known k n b s) w) := by
  have HR : Hid (RS A w S d) := h
  have HK : Hid (Bs w ak nk ck k) := hk
  have HN : Hid (Bs w an nn cn n) := hn
  have HB : Hid (Bs w ab nb cb b) := hb
  have HC : Hid (Bs w as' ns cs' s) := hs
  have hbl : S.book.length = d.bn := Sl.len h.book
  have HL : Hid (S.book.length = d.bn) := hbl
  have hbn : d.bn ≤ 1000 := by omega
  clear h hk hn hb hs hbl hz
  obtain ⟨ba, bn, bc, ca, cn', cc⟩ := d
  dsimp only at HL hbn
  unfold rsV rsC
  dsimp only
  go_enter Tryz.func97, Tryz.ntmps97
  go_wp2_with fail
  obtain ⟨x5, hx5⟩ : ∃ x, x = w.heap.size := ⟨_, rfl⟩
  have B5 := Blk.new w #[.bool S.ideal, .slice ba bn bc, .slice ca cn' cc, .int .u64 (S.count : Int), .bool S.reused, .bool S.forged] 54
  have q1 : Below w.heap.size w (w.alloc (.cells #[.bool S.ideal, .slice ba bn bc, .slice ca cn' cc, .int .u64 (S.count : Int), .bool S.reused, .bool S.forged] 54)) := below_alloc w _
  rw [← hx5] at B5 ⊢
  clear hx5
  generalize w.alloc (.cells #[.bool S.ideal, .slice ba bn bc, .slice ca cn' cc, .int .u64 (S.count : Int), .bool S.reused, .bool S.forged] 54) = w1 at *
  have HB5 : Hid (Blk w1 x5 [.bool S.ideal, .slice ba bn bc, .slice ca cn' cc, .int .u64 (S.count : Int), .bool S.reused, .bool S.forged] 54) := B5
  have Q1 : Hid (Below w.heap.size w w1) := q1
  clear B5 q1
  go_loopw [12] (fun i wr => ∃ t : Nat, t ≤ bn ∧ i = .int .i64 (t : Int) ∧ Hid ((∀ x ∈ S.book.take t, x.is k n b s = false) ∧ Below w1.heap.size w1 wr)) (fun i _ => bn - (intOf i).toNat)
  case atStart => exact ⟨0, Nat.zero_le _, rfl, fun x hx => by simp at hx, Below.refl _ _⟩
  case round =>
    obtain ⟨t, ht, rfl, HI⟩ := hrel
    have QR : Hid (Below w.heap.size w wr) := Q1.out.trans (HI.out.2.mono Q1.out.size)
    have BR := HB5.out.below HI.out.2 HB5.out.lt
    have c1 : wr.cell? ⟨x5, 1, none⟩ = some (.slice ba bn bc) := BR.cell 1
    have lx : x5 < wr.heap.size := BR.lt
    clear BR
    by_cases hlt : t < bn
    · have i0 : (t : Int) < (bn : Int) := by omega
      obtain ⟨e, he⟩ : ∃ e, S.book[t]? = some e := ⟨_, List.getElem?_eq_getElem (by rw [HL.out]; exact hlt)⟩
      obtain ⟨bb, oo, vs, hba, hlb, hrg, hvl, p0, m0, q0, p1, m1, q1, p2, m2, q2, p3, m3, q3, p4, m4, q4, rfl, b0, b1, b2, b3, b4⟩ := Sl.at (HR.out.grow QR.out).book he
      dsimp only at hba
      subst hba
      have e0 : wr.cell? ⟨bb, oo + t * 5, none⟩ = some (.slice p0 m0 q0) := hrg 0 _ rfl
      have e1 : wr.cell? ⟨bb, oo + t * 5 + 1, none⟩ = some (.slice p1 m1 q1) := hrg 1 _ rfl
      have e2 : wr.cell? ⟨bb, oo + t * 5 + 2, none⟩ = some (.slice p2 m2 q2) := hrg 2 _ rfl
      have e3 : wr.cell? ⟨bb, oo + t * 5 + 3, none⟩ = some (.slice p3 m3 q3) := hrg 3 _ rfl
      have e4 : wr.cell? ⟨bb, oo + t * 5 + 4, none⟩ = some (.slice p4 m4 q4) := hrg 4 _ rfl
      have hcb : bn ≤ bc := (Sl.cap HR.out.book).1
      have hcm : bc ≤ maxLen := (Sl.cap HR.out.book).2
      have G0 : Hid (BA A wr p0 m0 q0 e.key) := b0
      have G1 : Hid (BA A wr p1 m1 q1 e.nonce) := b1
      have G2 : Hid (BA A wr p2 m2 q2 e.beside) := b2
      have G3 : Hid (BA A wr p3 m3 q3 e.text) := b3
      have G4 : Hid (BA A wr p4 m4 q4 e.sealed) := b4
      have HE : Hid (S.book[t]? = some e) := he
      obtain ⟨D0, hD0⟩ : ∃ D, D = decide (e.key = k) := ⟨_, rfl⟩
      obtain ⟨D1, hD1⟩ : ∃ D, D = decide (e.nonce = n) := ⟨_, rfl⟩
      obtain ⟨D2, hD2⟩ : ∃ D, D = decide (e.beside = b) := ⟨_, rfl⟩
      obtain ⟨D3, hD3⟩ : ∃ D, D = decide (e.sealed = s) := ⟨_, rfl⟩
      have C0 : Hid (∀ u, Below wr.heap.size wr u → Calls Tryz.prog 29 #[.slice p0 m0 q0, .slice ak nk ck] u fun e w' => e = .returned (.bool D0) ∧ Below u.heap.size u w') := fun u hu => by rw [hD0]; exact sameD u (G0.out.below' hu).1 (HK.out.below (QR.out.trans (hu.mono QR.out.size)) (Nat.le_refl _))
      have C1 : Hid (∀ u, Below wr.heap.size wr u → Calls Tryz.prog 29 #[.slice p1 m1 q1, .slice an nn cn] u fun e w' => e = .returned (.bool D1) ∧ Below u.heap.size u w') := fun u hu => by rw [hD1]; exact sameD u (G1.out.below' hu).1 (HN.out.below (QR.out.trans (hu.mono QR.out.size)) (Nat.le_refl _))
      have C2 : Hid (∀ u, Below wr.heap.size wr u → Calls Tryz.prog 29 #[.slice p2 m2 q2, .slice ab nb cb] u fun e w' => e = .returned (.bool D2) ∧ Below u.heap.size u w') := fun u hu => by rw [hD2]; exact sameD u (G2.out.below' hu).1 (HB.out.below (QR.out.trans (hu.mono QR.out.size)) (Nat.le_refl _))
      have C3 : Hid (∀ u, Below wr.heap.size wr u → Calls Tryz.prog 29 #[.slice p4 m4 q4, .slice as' ns cs'] u fun e w' => e = .returned (.bool D3) ∧ Below u.heap.size u w') := fun u hu => by rw [hD3]; exact sameD u (G4.out.below' hu).1 (HC.out.below (QR.out.trans (hu.mono QR.out.size)) (Nat.le_refl _))
      have HD : Hid (e.is k n b s = (D0 && D1 && D2 && D3)) := by show _ = _; rw [hD0, hD1, hD2, hD3]; rfl
      have q2' : Below wr.heap.size wr (wr.alloc (.cells #[.slice p0 m0 q0, .slice p1 m1 q1, .slice p2 m2 q2, .slice p3 m3 q3, .slice p4 m4 q4] 144)) := below_alloc wr _
      have BE := Blk.new wr #[.slice p0 m0 q0, .slice p1 m1 q1, .slice p2 m2 q2, .slice p3 m3 q3, .slice p4 m4 q4] 144
      have Q2 : Hid (Below wr.heap.size wr (wr.alloc (.cells #[.slice p0 m0 q0, .slice p1 m1 q1, .slice p2 m2 q2, .slice p3 m3 q3, .slice p4 m4 q4] 144))) := q2'
      clear b0 b1 b2 b3 b4 hrg he hD0 hD1 hD2 hD3 q2'
      go_wp2_with fail
      obtain ⟨xe, hxe⟩ : ∃ x, x = wr.heap.size := ⟨_, rfl⟩
      rw [← hxe] at BE ⊢
      have HBE : Hid (Blk (wr.alloc (.cells #[.slice p0 m0 q0, .slice p1 m1 q1, .slice p2 m2 q2, .slice p3 m3 q3, .slice p4 m4 q4] 144)) xe [.slice p0 m0 q0, .slice p1 m1 q1, .slice p2 m2 q2, .slice p3 m3 q3, .slice p4 m4 q4] 144) := BE
      clear hxe BE c1 lx e0 e1 e2 e3 e4
      generalize wr.alloc (.cells #[.slice p0 m0 q0, .slice p1 m1 q1, .slice p2 m2 q2, .slice p3 m3 q3, .slice p4 m4 q4] 144) = w2 at *
      refine (C0.out w2 Q2.out).mono ?_
      rintro _ w3 ⟨rfl, hb3⟩
      have Q3 : Hid (Below wr.heap.size wr w3) := Q2.out.trans (hb3.mono Q2.out.size)
      have B3 := HBE.out.below hb3 HBE.out.lt
      have f1 : w3.cell? ⟨xe, 1, none⟩ = some (.slice p1 m1 q1) := B3.cell 1
      have l3 := B3.lt
      have NX : Hid (∀ u, Below wr.heap.size wr u → (D0 && D1 && D2 && D3) = false → (∀ x ∈ S.book.take (t + 1), x.is k n b s = false) ∧ Below w1.heap.size w1 u) := fun u hu hf => ⟨take_all HE.out HI.out.1 (by rw [HD.out, hf]), HI.out.2.trans (hu.mono HI.out.2.size)⟩
      cases D0 with
      | false =>
        clear B3 f1
        go_wp2_with fail
        go_roundw
        case rel => exact ⟨t + 1, by omega, by go_num, NX.out _ Q3.out rfl⟩
        case measure => simp [intOf]; omega
      | true =>
        go_wp2_with fail
        refine (C1.out w3 Q3.out).mono ?_
        rintro _ w4 ⟨rfl, hb4⟩
        have Q4 : Hid (Below wr.heap.size wr w4) := Q3.out.trans (hb4.mono Q3.out.size)
        have B4 := B3.below hb4 B3.lt
        have f2 : w4.cell? ⟨xe, 2, none⟩ = some (.slice p2 m2 q2) := B4.cell 2
        have l4 := B4.lt
        clear f1 B3 l3
        cases D1 with
        | false =>
          clear B4 f2
          go_wp2_with fail
          go_roundw
          case rel => exact ⟨t + 1, by omega, by go_num, NX.out _ Q4.out rfl⟩
          case measure => simp [intOf]; omega
        | true =>
          go_wp2_with fail
          refine (C2.out w4 Q4.out).mono ?_
          rintro _ w5 ⟨rfl, hb5⟩
          have Q5 : Hid (Below wr.heap.size wr w5) := Q4.out.trans (hb5.mono Q4.out.size)
          have B5 := B4.below hb5 B4.lt
          have f3 : w5.cell? ⟨xe, 4, none⟩ = some (.slice p4 m4 q4) := B5.cell 4
          have l5 := B5.lt
          clear f2 B4 l4
          cases D2 with
          | false =>
            clear B5 f3
            go_wp2_with fail
            go_roundw
            case rel => exact ⟨t + 1, by omega, by go_num, NX.out _ Q5.out rfl⟩
            case measure => simp [intOf]; omega
          | true =>
            go_wp2_with fail
            refine (C3.out w5 Q5.out).mono ?_
            rintro _ w6 ⟨rfl, hb6⟩
            have Q6 : Hid (Below wr.heap.size wr w6) := Q5.out.trans (hb6.mono Q5.out.size)
            have B6 := B5.below hb6 B5.lt
            have f4 : w6.cell? ⟨xe, 3, none⟩ = some (.slice p3 m3 q3) := B6.cell 3
            have l6 := B6.lt
            clear f3 B5 l5
            cases D3 with
            | false =>
              clear B6 f4
              go_wp2_with fail
              go_roundw
              case rel => exact ⟨t + 1, by omega, by go_num, NX.out _ Q6.out rfl⟩
              case measure => simp [intOf]; omega
            | true =>
              clear B6
              go_wp2_with fail
              go_ret2
              have hkn := known_step HE.out HI.out.1 HD.out
              exact ⟨p3, m3, q3, by rw [hkn]; rfl, by rw [hkn]; exact G3.out.below' Q6.out, QR.out.trans (Q6.out.mono QR.out.size)⟩
    · have i0 : ¬ (t : Int) < (bn : Int) := by omega
      go_wp2_with fail
      go_ret2
      have hkn : S.known k n b s = none := known_none fun x hx => HI.out.1 x (by rw [List.take_of_length_le (by rw [HL.out]; omega)]; exact hx)
      exact ⟨none, 0, 0, by rw [hkn]; rfl, by rw [hkn]; exact BA.nil _ _, QR.out⟩

end Go.Proofs.YtlenmkhmkommcaaGreat

/-
  The contract of layer 12's reference's noted: one thing more in the book. Condition: a book of at most a thousand things.
-/
namespace Go.Proofs.YtlenmkhmkommcaaGreat
open Go.RowKit
set_option linter.unusedVariables false

theorem infoEn : (Tryz.prog.info? 144).map (fun i => (i.zero, i.size, i.bytes)) = some (some (.agg #[.slice none 0 0, .slice none 0 0, .slice none 0 0, .slice none 0 0, .slice none 0 0]), 5, 120) := by kernel_rfl
/-- Memory of A that was there. -/
def Old (A : Nat → Prop) (w : World) : Nat → Prop := fun j => A j ∧ j < w.heap.size
theorem BA.old {A : Nat → Prop} {w : World} {p : Option Addr} {m q : Nat} {l : List UInt8} (h : BA A w p m q l) : BA (Old A w) w p m q l := h.mono' fun j hj ha => ⟨ha, hj⟩
theorem elE.mono {A A' : Nat → Prop} {w : World} (hA : ∀ j, j < w.heap.size → A j → A' j) : ∀ x vs, elE A w x vs → elE A' w x vs := by
  rintro c vs ⟨p0, m0, q0, p1, m1, q1, p2, m2, q2, p3, m3, q3, p4, m4, q4, e, h0, h1, h2, h3, h4⟩
  exact ⟨p0, m0, q0, p1, m1, q1, p2, m2, q2, p3, m3, q3, p4, m4, q4, e, h0.mono' hA, h1.mono' hA, h2.mono' hA, h3.mono' hA, h4.mono' hA⟩
theorem elD.mono {A A' : Nat → Prop} {w : World} (hA : ∀ j, j < w.heap.size → A j → A' j) : ∀ x vs, elD A w x vs → elD A' w x vs := by
  rintro c vs ⟨p0, m0, q0, p1, m1, q1, p2, m2, q2, e, h0, h1, h2⟩
  exact ⟨p0, m0, q0, p1, m1, q1, p2, m2, q2, e, h0.mono' hA, h1.mono' hA, h2.mono' hA⟩
/-- What is old outlasts what is written to new memory. -/
theorem elE.new {A : Nat → Prop} {w0 w w' : World} {r : Option Nat} (g : w.grownBy w' r) (hs : w0.heap.size ≤ w.heap.size) (hr : ∀ j, r = some j → w0.heap.size ≤ j) : ∀ x vs, elE (Old A w0) w x vs → elE (Old A w0) w' x vs :=
  elE.keep g.size fun j hj ha => g.block j hj fun e => by have := hr j e.symm; have := ha.2; omega
theorem elD.new {A : Nat → Prop} {w0 w w' : World} {r : Option Nat} (g : w.grownBy w' r) (hs : w0.heap.size ≤ w.heap.size) (hr : ∀ j, r = some j → w0.heap.size ≤ j) : ∀ x vs, elD (Old A w0) w x vs → elD (Old A w0) w' x vs :=
  elD.keep g.size fun j hj ha => g.block j hj fun e => by have := hr j e.symm; have := ha.2; omega
theorem RS.old {A : Nat → Prop} {w : World} {S : SeaS} {d : Du} (h : RS A w S d) : RS (Old A w) w S d :=
  ⟨h.book.mono (elE.mono fun j hj ha => ⟨ha, hj⟩) fun j hj ha => ⟨ha, hj⟩, h.kids.mono (elD.mono fun j hj ha => ⟨ha, hj⟩) fun j hj ha => ⟨ha, hj⟩⟩
/-- With one thing more. -/
def SeaS.noted (S : SeaS) (k n b t s : List UInt8) : SeaS := { S.add k n b t s with reused := S.reused || S.other k n b t }
def rsLL (i : Bool) (ba : Option Addr) (bn bc : Nat) (ca : Option Addr) (cn cc : Nat) (q : Nat) (r f : Bool) : List Value := [.bool i, .slice ba bn bc, .slice ca cn cc, .int .u64 (q : Int), .bool r, .bool f]
theorem rsLL_one (i : Bool) (ba : Option Addr) (bn bc : Nat) (ca : Option Addr) (cn cc : Nat) (q : Nat) (r f : Bool) : ∀ v ∈ rsLL i ba bn bc ca cn cc q r f, v.oneCell' = true := by
  intro v hv
  simp only [rsLL, List.mem_cons, List.not_mem_nil, or_false] at hv
  rcases hv with rfl | rfl | rfl | rfl | rfl | rfl <;> rfl
theorem Kp.sets (w : World) (g : Nat) (us : List Value) (o : Nat) : Kp (fun j => j = g) w (w.setCells g o us) := by
  induction us generalizing w o with
  | nil => exact Kp.refl _ _
  | cons u us ih => exact (Kp.of_grown (but_set w g o u)).trans (ih _ _)
theorem any_step {l : List Ent} {t : Nat} {e : Ent} (hi : l[t]? = some e) (p : Ent → Bool) : (l.take (t + 1)).any p = ((l.take t).any p || p e) := by
  rw [List.take_add_one, hi, List.any_append]
  simp
theorem Kp.new {F : Nat → Prop} {w0 w w' : World} (h : Below w0.heap.size w0 w) (k : Kp F w w') (hF : ∀ j, F j → w0.heap.size ≤ j) : Below w0.heap.size w0 w' := below_kp h k h.size fun j hj hf => by have := hF j hf; omega

theorem five_one (p0 : Option Addr) (m0 q0 : Nat) (p1 : Option Addr) (m1 q1 : Nat) (p2 : Option Addr) (m2 q2 : Nat) (p3 : Option Addr) (m3 q3 : Nat) (p4 : Option Addr) (m4 q4 : Nat) : ∀ u ∈ [Value.slice p0 m0 q0, .slice p1 m1 q1, .slice p2 m2 q2, .slice p3 m3 q3, .slice p4 m4 q4], u.oneCell' = true := by
  intro v hv
  simp only [List.mem_cons, List.not_mem_nil, or_false] at hv
  rcases hv with rfl | rfl | rfl | rfl | rfl <;> rfl
set_option maxRecDepth 100000 in
set_option maxHeartbeats 8000000 in
theorem rNoted12 (w : World) {A : Nat → Prop} (hA : ∀ j, w.heap.size ≤ j → A j) {S : SeaS} {d : Du} (h : RS A w S d) {k n b t s : List UInt8} {ak an ab at' as' : Option Addr} {nk ck nn cn nb cb nt ct ns cs' : Nat} (hk : BA A w ak nk ck k) (hn : BA A w an nn cn n) (hb : BA A w ab nb cb b) (ht : BA A w at' nt ct t) (hs : BA A w as' ns cs' s) (hz : S.book.length ≤ 1000) :
    Calls Tryz.prog 75 #[rsV S d, .agg #[.slice ak nk ck, .slice an nn cn, .slice ab nb cb, .slice at' nt ct, .slice as' ns cs']] w fun e w' => ∃ d', e = .returned (rsV (S.noted k n b t s) d') ∧ RS A w' (S.noted k n b t s) d' ∧ Below w.heap.size w w' := by
  have HR : Hid (RS A w S d) := h
  have HO : Hid (RS (Old A w) w S d) := h.old
  have HK : Hid (BA (Old A w) w ak nk ck k) := hk.old
  have HN : Hid (BA (Old A w) w an nn cn n) := hn.old
  have HB : Hid (BA (Old A w) w ab nb cb b) := hb.old
  have HT : Hid (BA (Old A w) w at' nt ct t) := ht.old
  have HC : Hid (BA (Old A w) w as' ns cs' s) := hs.old
  have HAA : Hid (∀ j, w.heap.size ≤ j → A j) := hA
  have hbl : S.book.length = d.bn := Sl.len h.book
  have HL : Hid (S.book.length = d.bn) := hbl
  have hbn : d.bn ≤ 1000 := by omega
  have hcap := Sl.cap h.book
  clear h hk hn hb ht hs hbl hz hA
  obtain ⟨ba, bn, bc, ca, cn', cc⟩ := d
  obtain ⟨si, sb, sk, sq, sr, sf⟩ := S
  dsimp only at HL hbn hcap
  unfold rsV rsC
  dsimp only
  go_enter Tryz.func75, Tryz.ntmps75
  go_wp2_with fail
  obtain ⟨x2, hx2⟩ : ∃ x, x = w.heap.size := ⟨_, rfl⟩
  obtain ⟨x3, hx3⟩ : ∃ x, x = w.heap.size + 1 := ⟨_, rfl⟩
  obtain ⟨x4, hx4⟩ : ∃ x, x = w.heap.size + 1 + 1 := ⟨_, rfl⟩
  obtain ⟨x5, hx5⟩ : ∃ x, x = w.heap.size + 1 + 1 + 1 := ⟨_, rfl⟩
  have B2 : Blk ((((w.alloc (.cells #[.bool si, .slice ba bn bc, .slice ca cn' cc, .int .u64 (sq : Int), .bool sr, .bool sf] 54)).alloc (.cells #[.slice ak nk ck, .slice an nn cn, .slice ab nb cb, .slice at' nt ct, .slice as' ns cs'] 144)).alloc (.cells #[.bool false, .slice none 0 0, .slice none 0 0, .int .u64 0, .bool false, .bool false] 54)).alloc (.cells #[.bool si, .slice ba bn bc, .slice ca cn' cc, .int .u64 (sq : Int), .bool sr, .bool sf] 54)) w.heap.size [.bool si, .slice ba bn bc, .slice ca cn' cc, .int .u64 (sq : Int), .bool sr, .bool sf] 54 := (((Blk.new w _ _).old _).old _).old _
  have B3 : Blk ((((w.alloc (.cells #[.bool si, .slice ba bn bc, .slice ca cn' cc, .int .u64 (sq : Int), .bool sr, .bool sf] 54)).alloc (.cells #[.slice ak nk ck, .slice an nn cn, .slice ab nb cb, .slice at' nt ct, .slice as' ns cs'] 144)).alloc (.cells #[.bool false, .slice none 0 0, .slice none 0 0, .int .u64 0, .bool false, .bool false] 54)).alloc (.cells #[.bool si, .slice ba bn bc, .slice ca cn' cc, .int .u64 (sq : Int), .bool sr, .bool sf] 54)) (w.heap.size + 1) [.slice ak nk ck, .slice an nn cn, .slice ab nb cb, .slice at' nt ct, .slice as' ns cs'] 144 := ((Blk.newAt (w.alloc (.cells #[.bool si, .slice ba bn bc, .slice ca cn' cc, .int .u64 (sq : Int), .bool sr, .bool sf] 54)) _ _ _ (by simp) _ rfl).old _).old _
  have B4 : Blk ((((w.alloc (.cells #[.bool si, .slice ba bn bc, .slice ca cn' cc, .int .u64 (sq : Int), .bool sr, .bool sf] 54)).alloc (.cells #[.slice ak nk ck, .slice an nn cn, .slice ab nb cb, .slice at' nt ct, .slice as' ns cs'] 144)).alloc (.cells #[.bool false, .slice none 0 0, .slice none 0 0, .int .u64 0, .bool false, .bool false] 54)).alloc (.cells #[.bool si, .slice ba bn bc, .slice ca cn' cc, .int .u64 (sq : Int), .bool sr, .bool sf] 54)) (w.heap.size + 1 + 1) [.bool false, .slice none 0 0, .slice none 0 0, .int .u64 0, .bool false, .bool false] 54 := (Blk.newAt ((w.alloc (.cells #[.bool si, .slice ba bn bc, .slice ca cn' cc, .int .u64 (sq : Int), .bool sr, .bool sf] 54)).alloc (.cells #[.slice ak nk ck, .slice an nn cn, .slice ab nb cb, .slice at' nt ct, .slice as' ns cs'] 144)) _ _ _ (by simp) _ rfl).old _
  have B5 : Blk ((((w.alloc (.cells #[.bool si, .slice ba bn bc, .slice ca cn' cc, .int .u64 (sq : Int), .bool sr, .bool sf] 54)).alloc (.cells #[.slice ak nk ck, .slice an nn cn, .slice ab nb cb, .slice at' nt ct, .slice as' ns cs'] 144)).alloc (.cells #[.bool false, .slice none 0 0, .slice none 0 0, .int .u64 0, .bool false, .bool false] 54)).alloc (.cells #[.bool si, .slice ba bn bc, .slice ca cn' cc, .int .u64 (sq : Int), .bool sr, .bool sf] 54)) (w.heap.size + 1 + 1 + 1) [.bool si, .slice ba bn bc, .slice ca cn' cc, .int .u64 (sq : Int), .bool sr, .bool sf] 54 := Blk.newAt (((w.alloc (.cells #[.bool si, .slice ba bn bc, .slice ca cn' cc, .int .u64 (sq : Int), .bool sr, .bool sf] 54)).alloc (.cells #[.slice ak nk ck, .slice an nn cn, .slice ab nb cb, .slice at' nt ct, .slice as' ns cs'] 144)).alloc (.cells #[.bool false, .slice none 0 0, .slice none 0 0, .int .u64 0, .bool false, .bool false] 54)) _ _ _ (by simp) _ rfl
  have q1 : Below w.heap.size w ((((w.alloc (.cells #[.bool si, .slice ba bn bc, .slice ca cn' cc, .int .u64 (sq : Int), .bool sr, .bool sf] 54)).alloc (.cells #[.slice ak nk ck, .slice an nn cn, .slice ab nb cb, .slice at' nt ct, .slice as' ns cs'] 144)).alloc (.cells #[.bool false, .slice none 0 0, .slice none 0 0, .int .u64 0, .bool false, .bool false] 54)).alloc (.cells #[.bool si, .slice ba bn bc, .slice ca cn' cc, .int .u64 (sq : Int), .bool sr, .bool sf] 54)) := (((below_alloc w _).trans ((below_alloc _ _).mono (by simp))).trans ((below_alloc _ _).mono (by simp; omega))).trans ((below_alloc _ _).mono (by simp; omega))
  rw [← hx5] at B5 ⊢
  rw [← hx4] at B4 ⊢
  rw [← hx3] at B3 ⊢
  rw [← hx2] at B2 ⊢
  have hxx : x2 < x3 ∧ x3 < x4 ∧ x4 < x5 ∧ w.heap.size ≤ x2 := by omega
  clear hx2 hx3 hx4 hx5
  generalize (((w.alloc (.cells #[.bool si, .slice ba bn bc, .slice ca cn' cc, .int .u64 (sq : Int), .bool sr, .bool sf] 54)).alloc (.cells #[.slice ak nk ck, .slice an nn cn, .slice ab nb cb, .slice at' nt ct, .slice as' ns cs'] 144)).alloc (.cells #[.bool false, .slice none 0 0, .slice none 0 0, .int .u64 0, .bool false, .bool false] 54)).alloc (.cells #[.bool si, .slice ba bn bc, .slice ca cn' cc, .int .u64 (sq : Int), .bool sr, .bool sf] 54) = w1 at *
  have Q1 : Hid (Below w.heap.size w w1) := q1
  have H2 : Hid (Blk w1 x2 [.bool si, .slice ba bn bc, .slice ca cn' cc, .int .u64 (sq : Int), .bool sr, .bool sf] 54) := B2
  have H3 : Hid (Blk w1 x3 [.slice ak nk ck, .slice an nn cn, .slice ab nb cb, .slice at' nt ct, .slice as' ns cs'] 144) := B3
  have H4 : Hid (Blk w1 x4 [.bool false, .slice none 0 0, .slice none 0 0, .int .u64 0, .bool false, .bool false] 54) := B4
  have H5 : Hid (Blk w1 x5 (rsLL si ba bn bc ca cn' cc sq sr sf) 54) := B5
  clear B2 B3 B4 B5 q1
  go_loopw [6] (fun i wr => ∃ t0 : Nat, t0 ≤ bn ∧ i = .int .i64 (t0 : Int) ∧ Hid (Blk wr x5 (rsLL si ba bn bc ca cn' cc sq (sr || (sb.take t0).any fun e => e.un k n b t) sf) 54 ∧ Kp (fun j => j = x5) w1 wr)) (fun i _ => bn - (intOf i).toNat)
  case atStart => exact ⟨0, Nat.zero_le _, rfl, by simpa using H5.out, Kp.refl _ _⟩
  case round =>
    clear H5
    obtain ⟨t0, ht0, rfl, HI⟩ := hrel
    have QR : Hid (Below w.heap.size w wr) := Kp.new Q1.out HI.out.2 fun j hj => by omega
    have R2 := HI.out.2.blk H2.out (by omega)
    have c21 : wr.cell? ⟨x2, 1, none⟩ = some (.slice ba bn bc) := R2.cell 1
    have l2 : x2 < wr.heap.size := R2.lt
    clear R2
    by_cases hlt : t0 < bn
    · have i0 : (t0 : Int) < (bn : Int) := by omega
      obtain ⟨e, he⟩ : ∃ e, sb[t0]? = some e := ⟨_, List.getElem?_eq_getElem (by rw [HL.out]; exact hlt)⟩
      obtain ⟨bb, oo, vs, hba, hlb, hrg, hvl, p0, m0, q0, p1, m1, q1, p2, m2, q2, p3, m3, q3, p4, m4, q4, rfl, b0, b1, b2, b3, b4⟩ := Sl.at (HR.out.grow QR.out).book he
      dsimp only at hba
      rw [hba] at c21
      clear hba
      have e0 : wr.cell? ⟨bb, oo + t0 * 5, none⟩ = some (.slice p0 m0 q0) := hrg 0 _ rfl
      have e1 : wr.cell? ⟨bb, oo + t0 * 5 + 1, none⟩ = some (.slice p1 m1 q1) := hrg 1 _ rfl
      have e2 : wr.cell? ⟨bb, oo + t0 * 5 + 2, none⟩ = some (.slice p2 m2 q2) := hrg 2 _ rfl
      have e3 : wr.cell? ⟨bb, oo + t0 * 5 + 3, none⟩ = some (.slice p3 m3 q3) := hrg 3 _ rfl
      have e4 : wr.cell? ⟨bb, oo + t0 * 5 + 4, none⟩ = some (.slice p4 m4 q4) := hrg 4 _ rfl
      obtain ⟨D0, hD0⟩ : ∃ D, D = decide (e.key = k) := ⟨_, rfl⟩
      obtain ⟨D1, hD1⟩ : ∃ D, D = decide (e.nonce = n) := ⟨_, rfl⟩
      obtain ⟨D2, hD2⟩ : ∃ D, D = decide (e.beside = b) := ⟨_, rfl⟩
      obtain ⟨D3, hD3⟩ : ∃ D, D = decide (e.text = t) := ⟨_, rfl⟩
      have C0 : Hid (∀ u, Below wr.heap.size wr u → Calls Tryz.prog 29 #[.slice p0 m0 q0, .slice ak nk ck] u fun e w' => e = .returned (.bool D0) ∧ Below u.heap.size u w') := fun u hu => by rw [hD0]; exact sameD u (b0.below' hu).1 (HK.out.1.below (QR.out.trans (hu.mono QR.out.size)) (Nat.le_refl _))
      have C1 : Hid (∀ u, Below wr.heap.size wr u → Calls Tryz.prog 29 #[.slice p1 m1 q1, .slice an nn cn] u fun e w' => e = .returned (.bool D1) ∧ Below u.heap.size u w') := fun u hu => by rw [hD1]; exact sameD u (b1.below' hu).1 (HN.out.1.below (QR.out.trans (hu.mono QR.out.size)) (Nat.le_refl _))
      have C2 : Hid (∀ u, Below wr.heap.size wr u → Calls Tryz.prog 29 #[.slice p2 m2 q2, .slice ab nb cb] u fun e w' => e = .returned (.bool D2) ∧ Below u.heap.size u w') := fun u hu => by rw [hD2]; exact sameD u (b2.below' hu).1 (HB.out.1.below (QR.out.trans (hu.mono QR.out.size)) (Nat.le_refl _))
      have C3 : Hid (∀ u, Below wr.heap.size wr u → Calls Tryz.prog 29 #[.slice p3 m3 q3, .slice at' nt ct] u fun e w' => e = .returned (.bool D3) ∧ Below u.heap.size u w') := fun u hu => by rw [hD3]; exact sameD u (b3.below' hu).1 (HT.out.1.below (QR.out.trans (hu.mono QR.out.size)) (Nat.le_refl _))
      have HD : Hid ((sb.take (t0 + 1)).any (fun e => e.un k n b t) = ((sb.take t0).any (fun e => e.un k n b t) || (D0 && D1 && (!D2 || !D3)))) := by show _ = _; rw [any_step he, hD0, hD1, hD2, hD3]; rfl
      have BE := Blk.new wr #[.slice p0 m0 q0, .slice p1 m1 q1, .slice p2 m2 q2, .slice p3 m3 q3, .slice p4 m4 q4] 144
      have Q2 : Hid (Below wr.heap.size wr (wr.alloc (.cells #[.slice p0 m0 q0, .slice p1 m1 q1, .slice p2 m2 q2, .slice p3 m3 q3, .slice p4 m4 q4] 144))) := below_alloc wr _
      clear b0 b1 b2 b3 b4 hrg he hD0 hD1 hD2 hD3
      have R3 := HI.out.2.blk H3.out (by omega)
      have HR3 : Hid (Blk wr x3 [.slice ak nk ck, .slice an nn cn, .slice ab nb cb, .slice at' nt ct, .slice as' ns cs'] 144) := R3
      have c30 : wr.cell? ⟨x3, 0, none⟩ = some (.slice ak nk ck) := R3.cell 0
      have l3 : x3 < wr.heap.size := R3.lt
      clear R3
      go_wp2_with fail
      obtain ⟨xe, hxe⟩ : ∃ x, x = wr.heap.size := ⟨_, rfl⟩
      rw [← hxe] at BE ⊢
      have HBE : Hid (Blk (wr.alloc (.cells #[.slice p0 m0 q0, .slice p1 m1 q1, .slice p2 m2 q2, .slice p3 m3 q3, .slice p4 m4 q4] 144)) xe [.slice p0 m0 q0, .slice p1 m1 q1, .slice p2 m2 q2, .slice p3 m3 q3, .slice p4 m4 q4] 144) := BE
      clear hxe BE c21 l2 e0 e1 e2 e3 e4 c30 l3
      generalize wr.alloc (.cells #[.slice p0 m0 q0, .slice p1 m1 q1, .slice p2 m2 q2, .slice p3 m3 q3, .slice p4 m4 q4] 144) = w2 at *
      refine (C0.out w2 Q2.out).mono ?_
      rintro _ w3 ⟨rfl, hb3⟩
      have Q3 : Hid (Below wr.heap.size wr w3) := Q2.out.trans (hb3.mono Q2.out.size)
      have E3 := HBE.out.below hb3 HBE.out.lt
      have f31 : w3.cell? ⟨xe, 1, none⟩ = some (.slice p1 m1 q1) := E3.cell 1
      have g31 : w3.cell? ⟨x3, 1, none⟩ = some (.slice an nn cn) := (HR3.out.below Q3.out HR3.out.lt).cell 1
      have le3 := E3.lt
      have lx3 := lt_of_cell g31
      dsimp only at lx3
      have NX : Hid (∀ u, Below wr.heap.size wr u → (D0 && D1 && (!D2 || !D3)) = false → Blk u x5 (rsLL si ba bn bc ca cn' cc sq (sr || (sb.take (t0 + 1)).any fun e => e.un k n b t) sf) 54 ∧ Kp (fun j => j = x5) w1 u) := fun u hu hf => by
        rw [HD.out, hf, Bool.or_false]
        exact ⟨HI.out.1.below hu HI.out.1.lt, HI.out.2.trans (Kp.of_below hu)⟩
      have NY : Hid (∀ u, Below wr.heap.size wr u → (D0 && D1 && (!D2 || !D3)) = true → Blk (u.setCell ⟨x5, 4, none⟩ (.bool true)) x5 (rsLL si ba bn bc ca cn' cc sq (sr || (sb.take (t0 + 1)).any fun e => e.un k n b t) sf) 54 ∧ Kp (fun j => j = x5) w1 (u.setCell ⟨x5, 4, none⟩ (.bool true))) := fun u hu hf => by
        rw [HD.out, hf, Bool.or_true, Bool.or_true]
        exact ⟨(HI.out.1.below hu HI.out.1.lt).setC 4 (.bool true), (HI.out.2.trans (Kp.of_below hu)).trans (Kp.of_grown (but_set u x5 4 _))⟩
      have XC : Hid (∀ u, Below wr.heap.size wr u → (∃ v, u.cell? ⟨x5, 4, none⟩ = some v) ∧ u.frozen? ⟨x5, 4, none⟩ = false ∧ x5 < u.heap.size) := fun u hu => ⟨⟨_, (HI.out.1.below hu HI.out.1.lt).cell 4⟩, (HI.out.1.below hu HI.out.1.lt).free 4, (HI.out.1.below hu HI.out.1.lt).lt⟩
      cases D0 with
      | false =>
        clear E3 f31 g31
        go_wp2_with fail
        go_roundw
        case rel => exact ⟨t0 + 1, by omega, by go_num, NX.out _ Q3.out rfl⟩
        case measure => simp [intOf]; omega
      | true =>
        go_wp2_with fail
        refine (C1.out w3 Q3.out).mono ?_
        rintro _ w4 ⟨rfl, hb4⟩
        have Q4 : Hid (Below wr.heap.size wr w4) := Q3.out.trans (hb4.mono Q3.out.size)
        have E4 := E3.below hb4 E3.lt
        have f42 : w4.cell? ⟨xe, 2, none⟩ = some (.slice p2 m2 q2) := E4.cell 2
        have g42 : w4.cell? ⟨x3, 2, none⟩ = some (.slice ab nb cb) := (HR3.out.below Q4.out HR3.out.lt).cell 2
        have le4 := E4.lt
        have lx4 := lt_of_cell g42
        dsimp only at lx4
        clear E3 f31 g31 le3 lx3
        cases D1 with
        | false =>
          clear E4 f42 g42
          go_wp2_with fail
          go_roundw
          case rel => exact ⟨t0 + 1, by omega, by go_num, NX.out _ Q4.out rfl⟩
          case measure => simp [intOf]; omega
        | true =>
          go_wp2_with fail
          refine (C2.out w4 Q4.out).mono ?_
          rintro _ w5 ⟨rfl, hb5⟩
          have Q5 : Hid (Below wr.heap.size wr w5) := Q4.out.trans (hb5.mono Q4.out.size)
          have E5 := E4.below hb5 E4.lt
          have f53 : w5.cell? ⟨xe, 3, none⟩ = some (.slice p3 m3 q3) := E5.cell 3
          have g53 : w5.cell? ⟨x3, 3, none⟩ = some (.slice at' nt ct) := (HR3.out.below Q5.out HR3.out.lt).cell 3
          have le5 := E5.lt
          have lx5 := lt_of_cell g53
          dsimp only at lx5
          obtain ⟨⟨y5, hy5⟩, hf5, hl5⟩ := XC.out w5 Q5.out
          clear E4 f42 g42 le4 lx4
          cases D2 with
          | false =>
            clear E5 f53 g53
            go_wp2_with fail
            go_roundw
            case rel => exact ⟨t0 + 1, by omega, by go_num, NY.out _ Q5.out rfl⟩
            case measure => simp [intOf]; omega
          | true =>
            go_wp2_with fail
            refine (C3.out w5 Q5.out).mono ?_
            rintro _ w6 ⟨rfl, hb6⟩
            have Q6 : Hid (Below wr.heap.size wr w6) := Q5.out.trans (hb6.mono Q5.out.size)
            obtain ⟨⟨y6, hy6⟩, hf6, hl6⟩ := XC.out w6 Q6.out
            clear E5 f53 g53 le5 lx5 hy5 hf5 hl5
            cases D3 with
            | false =>
              go_wp2_with fail
              go_roundw
              case rel => exact ⟨t0 + 1, by omega, by go_num, NY.out _ Q6.out rfl⟩
              case measure => simp [intOf]; omega
            | true =>
              clear hy6 hf6
              go_wp2_with fail
              go_roundw
              case rel => exact ⟨t0 + 1, by omega, by go_num, NX.out _ Q6.out rfl⟩
              case measure => simp [intOf]; omega
    · have i0 : ¬ (t0 : Int) < (bn : Int) := by omega
      have hall : sb.take t0 = sb := List.take_of_length_le (by rw [HL.out]; omega)
      have HI' : Hid (Blk wr x5 (rsLL si ba bn bc ca cn' cc sq (sr || sb.any fun e => e.un k n b t) sf) 54 ∧ Kp (fun j => j = x5) w1 wr) := by
        have := HI.out
        rw [hall] at this
        exact this
      clear HI hall
      obtain ⟨R, hR⟩ : ∃ R, R = (sr || sb.any fun e => e.un k n b t) := ⟨_, rfl⟩
      rw [← hR] at HI'
      have HRR : Hid (R = (sr || sb.any fun e => e.un k n b t)) := hR
      clear hR
      have R5 := HI'.out.1
      have c51 : wr.cell? ⟨x5, 1, none⟩ = some (.slice ba bn bc) := R5.cell 1
      have f51 := R5.free 1
      have l5 := R5.lt
      have S5 := R5.setC 1 (.slice none 0 0)
      have k2 : Kp (fun j => j = x5) w1 (wr.setCell ⟨x5, 1, none⟩ (.slice none 0 0)) := HI'.out.2.trans (Kp.of_grown (but_set wr x5 1 _))
      have S5' : Hid (Blk (wr.setCell ⟨x5, 1, none⟩ (.slice none 0 0)) x5 (rsLL si none 0 0 ca cn' cc sq R sf) 54) := S5
      have K2 : Hid (Kp (fun j => j = x5) w1 (wr.setCell ⟨x5, 1, none⟩ (.slice none 0 0))) := k2
      clear R5 S5 k2 HI'
      have Q2 : Hid (Below w.heap.size w (wr.setCell ⟨x5, 1, none⟩ (.slice none 0 0))) := Kp.new Q1.out K2.out fun j hj => by omega
      have R2 := K2.out.blk H2.out (by omega)
      have d21 : (wr.setCell ⟨x5, 1, none⟩ (.slice none 0 0)).cell? ⟨x2, 1, none⟩ = some (.slice ba bn bc) := R2.cell 1
      have d51 : (wr.setCell ⟨x5, 1, none⟩ (.slice none 0 0)).cell? ⟨x5, 1, none⟩ = some (.slice none 0 0) := S5'.out.cell 1
      have SRC := (HO.out.grow Q2.out).book
      go_upto_region 9 with fail
      generalize wr.setCell ⟨x5, 1, none⟩ (.slice none 0 0) = w2 at *
      have l2x : x2 < w2.heap.size := R2.lt
      have l5x : x5 < w2.heap.size := S5'.out.lt
      have l3x : x3 < w2.heap.size := (K2.out.blk H3.out (by omega)).lt
      clear R2 c51 f51 l5
      go_upto_region 10 with (at_builtin; (refine wpList_slapp (elE (Old A w)) 5 120 50 144 _ Tryz.underlying50 infoEn rfl (by decide) (by decide) w2 rfl (.tmp 52) (.tmp 54) rfl w2.heap.size (.slice none 0 0) [] rfl (OwS.nil _ _ _ _ _) (Old A w) ba bn bc sb rfl SRC (by simp [HL.out]; omega) (Nat.le_refl _) (fun w' x vs hg hx => elE.new hg Q2.out.size (fun j hj => by simp [Value.ownBlock] at hj) x vs hx) ?_); intro v3 w3 o3 g3
                              have S53 : Blk w3 x5 (rsLL si none 0 0 ca cn' cc sq R sf) 54 := S5'.out.same (g3.block _ S5'.out.lt (by simp [Value.ownBlock]))
                              have c351 : w3.cell? ⟨x5, 1, none⟩ = some (.slice none 0 0) := S53.cell 1
                              have f351 := S53.free 1
                              have l351 := S53.lt
                              obtain ⟨a3, n3, c3, rfl, hl3⟩ := o3.shape)
      have g3b : Below w2.heap.size w2 w3 := ⟨g3.os, g3.tape, g3.output, g3.size, fun j hj => g3.block j hj (by simp [Value.ownBlock])⟩
      have Q3 : Below w.heap.size w w3 := Q2.out.trans (g3b.mono Q2.out.size)
      have S54 : Blk (w3.setCell ⟨x5, 1, none⟩ (.slice a3 n3 c3)) x5 (rsLL si a3 n3 c3 ca cn' cc sq R sf) 54 := S53.setC 1 (.slice a3 n3 c3)
      have k34 : Kp (fun j => j = x5) w3 (w3.setCell ⟨x5, 1, none⟩ (.slice a3 n3 c3)) := Kp.of_grown (but_set w3 x5 1 _)
      have Q4 : Hid (Below w.heap.size w (w3.setCell ⟨x5, 1, none⟩ (.slice a3 n3 c3))) := Kp.new Q3 k34 fun j hj => by omega
      have o4 : OwS (elE (Old A w)) 5 144 (w3.setCell ⟨x5, 1, none⟩ (.slice a3 n3 c3)) w2.heap.size (.slice a3 n3 c3) ([] ++ sb) := o3.keep (elE.keep k34.size fun j hj ha => k34.block j hj fun e => by have := ha.2; omega) (fun j hj => k34.block j (o3.lt j hj).2 (fun e => by have := (o3.lt j hj).1; omega))
      have K4 : Hid (Kp (fun j => j = x5) w1 (w3.setCell ⟨x5, 1, none⟩ (.slice a3 n3 c3))) := (K2.out.trans (Kp.of_below g3b)).trans k34
      have hsz4 : w2.heap.size ≤ (w3.setCell ⟨x5, 1, none⟩ (.slice a3 n3 c3)).heap.size := Nat.le_trans g3b.size k34.size
      clear S53 c351 f351 l351 g3 o3 g3b Q3 k34 SRC d21 d51
      generalize w3.setCell ⟨x5, 1, none⟩ (.slice a3 n3 c3) = w4 at *
      have B33 := K4.out.blk H3.out (by omega)
      have e30 : w4.cell? ⟨x3, 0, none⟩ = some (.slice ak nk ck) := B33.cell 0
      have e31 : w4.cell? ⟨x3, 1, none⟩ = some (.slice an nn cn) := B33.cell 1
      have e32 : w4.cell? ⟨x3, 2, none⟩ = some (.slice ab nb cb) := B33.cell 2
      have e33 : w4.cell? ⟨x3, 3, none⟩ = some (.slice at' nt ct) := B33.cell 3
      have e34 : w4.cell? ⟨x3, 4, none⟩ = some (.slice as' ns cs') := B33.cell 4
      have l33 := B33.lt
      have c451 : w4.cell? ⟨x5, 1, none⟩ = some (.slice a3 n3 c3) := S54.cell 1
      have l45 := S54.lt
      have bA := below_alloc w4 (.cells #[.slice ak nk ck, .slice an nn cn, .slice ab nb cb, .slice at' nt ct, .slice as' ns cs'] 144)
      have Q5 : Below w.heap.size w (w4.alloc (.cells #[.slice ak nk ck, .slice an nn cn, .slice ab nb cb, .slice at' nt ct, .slice as' ns cs'] 144)) := Q4.out.trans (bA.mono Q4.out.size)
      have o5 : OwS (elE (Old A w)) 5 144 (w4.alloc (.cells #[.slice ak nk ck, .slice an nn cn, .slice ab nb cb, .slice at' nt ct, .slice as' ns cs'] 144)) w2.heap.size (.slice a3 n3 c3) ([] ++ sb) := o4.keep (elE.keep bA.size fun j hj ha => bA.block j hj) (fun j hj => bA.block j (o4.lt j hj).2)
      have ON : Sl (elE (Old A w)) 5 (fun _ => True) (w4.alloc (.cells #[.slice ak nk ck, .slice an nn cn, .slice ab nb cb, .slice at' nt ct, .slice as' ns cs'] 144)) (some ⟨w4.heap.size, 0, none⟩) 1 1 [⟨k, n, b, t, s⟩] := Sl.one (Blk.new w4 _ _) ⟨rfl, five_one _ _ _ _ _ _ _ _ _ _ _ _ _ _ _, ak, nk, ck, an, nn, cn, ab, nb, cb, at', nt, ct, as', ns, cs', rfl, HK.out.below' Q5, HN.out.below' Q5, HB.out.below' Q5, HT.out.below' Q5, HC.out.below' Q5⟩ trivial
      have S55 : Blk (w4.alloc (.cells #[.slice ak nk ck, .slice an nn cn, .slice ab nb cb, .slice at' nt ct, .slice as' ns cs'] 144)) x5 (rsLL si a3 n3 c3 ca cn' cc sq R sf) 54 := S54.old _
      have K5 : Kp (fun j => j = x5) w1 (w4.alloc (.cells #[.slice ak nk ck, .slice an nn cn, .slice ab nb cb, .slice at' nt ct, .slice as' ns cs'] 144)) := K4.out.trans (Kp.of_below bA)
      have hsz5 : w2.heap.size ≤ ((w4.alloc (.cells #[.slice ak nk ck, .slice an nn cn, .slice ab nb cb, .slice at' nt ct, .slice as' ns cs'] 144))).heap.size := Nat.le_trans hsz4 bA.size
      clear B33
      go_upto_region 11 with (at_builtin; go_must (refine wpList_slapp (elE (Old A w)) 5 120 50 144 _ Tryz.underlying50 infoEn rfl (by decide) (by decide) (w4.alloc (.cells #[.slice ak nk ck, .slice an nn cn, .slice ab nb cb, .slice at' nt ct, .slice as' ns cs'] 144)) rfl (.tmp 58) (.tmp 60) rfl w2.heap.size (.slice a3 n3 c3) ([] ++ sb) rfl o5 (fun _ => True) (some ⟨w4.heap.size, 0, none⟩) 1 1 [⟨k, n, b, t, s⟩] rfl ON (by simp [HL.out]; omega) hsz5 (fun w' x vs hg hx => elE.new hg Q5.size (fun j hj => by have := (o5.lt j hj).1; have := Q2.out.size; omega) x vs hx) ?_); intro v6 w6 o6 g6
                              have no5 : ¬ (Value.slice a3 n3 c3).ownBlock = some x5 := fun e => by have := (o5.lt _ e).1; omega
                              have S56 : Blk w6 x5 (rsLL si a3 n3 c3 ca cn' cc sq R sf) 54 := S55.same (g6.block _ S55.lt (fun e => no5 e.symm))
                              obtain ⟨a6, n6, c6, rfl, hl6⟩ := o6.shape
                              have c651 : w6.cell? ⟨x5, 1, none⟩ = some (.slice a3 n3 c3) := S56.cell 1
                              have f651 := S56.free 1
                              have l651 := S56.lt)
      have k67 : Kp (fun j => j = x5) w6 (w6.setCell ⟨x5, 1, none⟩ (.slice a6 n6 c6)) := Kp.of_grown (but_set w6 x5 1 _)
      have S57 : Hid (Blk (w6.setCell ⟨x5, 1, none⟩ (.slice a6 n6 c6)) x5 (rsLL si a6 n6 c6 ca cn' cc sq R sf) 54) := S56.setC 1 (.slice a6 n6 c6)
      have hsz6 := g6.size
      have o7 : Hid (OwS (elE (Old A w)) 5 144 (w6.setCell ⟨x5, 1, none⟩ (.slice a6 n6 c6)) w2.heap.size (.slice a6 n6 c6) ([] ++ sb ++ [⟨k, n, b, t, s⟩])) := o6.keep (elE.keep k67.size fun j hj ha => k67.block j hj fun e => by have := ha.2; omega) (fun j hj => k67.block j (o6.lt j hj).2 (fun e => by have := (o6.lt j hj).1; omega))
      have B46 : Blk w6 x4 [.bool false, .slice none 0 0, .slice none 0 0, .int .u64 0, .bool false, .bool false] 54 := (K5.blk H4.out (by omega)).same (g6.block _ (K5.blk H4.out (by omega)).lt (fun e => by have := (o5.lt _ e.symm).1; omega))
      have B47 : Hid (Blk (w6.setCell ⟨x5, 1, none⟩ (.slice a6 n6 c6)) x4 [.bool false, .slice none 0 0, .slice none 0 0, .int .u64 0, .bool false, .bool false] 54) := k67.blk B46 (by omega)
      have Q7 : Hid (Below w.heap.size w (w6.setCell ⟨x5, 1, none⟩ (.slice a6 n6 c6))) := Kp.new (⟨Q5.os ▸ g6.os, Q5.tape ▸ g6.tape, Q5.output ▸ g6.output, Nat.le_trans Q5.size g6.size, fun j hj => (g6.block j (Nat.lt_of_lt_of_le hj Q5.size) (fun e => by have := (o5.lt _ e.symm).1; have := Q2.out.size; omega)).trans (Q5.block j hj)⟩ : Below w.heap.size w w6) k67 fun j hj => by omega
      have hsz7 : w2.heap.size ≤ (w6.setCell ⟨x5, 1, none⟩ (.slice a6 n6 c6)).heap.size := Nat.le_trans (Nat.le_trans hsz5 hsz6) k67.size
      clear S56 c651 f651 l651 g6 o6 B46 k67 o5 ON S55 K5 hsz5 bA Q5 o4 e30 e31 e32 e33 e34 c451 S54 hsz6
      generalize w6.setCell ⟨x5, 1, none⟩ (.slice a6 n6 c6) = w7 at *
      go_wp2_with (first
        | ((with_reducible refine at_ld 54 ?_); (refine ld 54 (.tmp 5) 6 sizeRS _ Tryz.underlying54 rfl x5 0 (rsLL si a6 n6 c6 ca cn' cc sq R sf) rfl S57.out.whole rfl ?_))
        | ((with_reducible refine at_st 54 ?_); (refine st' 54 (.tmp 4) (.tmp 63) 6 sizeRS x4 0 (rsLL si a6 n6 c6 ca cn' cc sq R sf) rfl (rsLL_one _ _ _ _ _ _ _ _ _ _) (B47.out.there 0 6 (by simp)) rfl rfl ?_); intro w8 hw8
           have B48 : Hid (Blk w8 x4 (rsLL si a6 n6 c6 ca cn' cc sq R sf) 54) := by rw [hw8]; exact B47.out.setsW _ rfl
           have K78 : Hid (Kp (fun j => j = x4) w7 w8) := by rw [hw8]; exact Kp.sets w7 x4 _ 0
           clear hw8))
      have k78 := K78.out
      refine bodyPost_ret (results_cell_row Tryz.results75 _ _ x4 54 (rsLL si a6 n6 c6 ca cn' cc sq R sf).toArray (0, 0) _ rfl B48.out Tryz.underlying54 rfl (by kernel_rfl)) rfl ?_
      have Q8 : Below w.heap.size w w8 := Kp.new Q7.out k78 fun j hj => by omega
      have o8 : OwS (elE (Old A w)) 5 144 w8 w2.heap.size (.slice a6 n6 c6) ([] ++ sb ++ [⟨k, n, b, t, s⟩]) := o7.out.keep (elE.keep k78.size fun j hj ha => k78.block j hj fun e => by have := ha.2; omega) (fun j hj => k78.block j (o7.out.lt j hj).2 (fun e => by have := (o7.out.lt j hj).1; omega))
      rw [List.nil_append] at o8
      have hQ2 := Q2.out.size
      have hbk := o8.sl3 (A := A) fun j hj _ => HAA.out j (by omega)
      have hkd := (HO.out.grow Q8).kids
      refine ⟨⟨a6, n6, c6, ca, cn', cc⟩, ?_, ⟨?_, ?_⟩, Q8⟩
      · rw [HRR.out]
        rfl
      · exact hbk.mono (elE.mono fun j _ ha => ha.1) fun _ _ h => h
      · exact hkd.mono (elD.mono fun j _ ha => ha.1) fun _ _ h => h.1

end Go.Proofs.YtlenmkhmkommcaaGreat

/-
  The contract of layer 11's reference's Noise: bytes of a number, in memory of the call's own. Conditions: the number fits 64 bits; at most 3000 bytes.
-/
namespace Go.Proofs.YtlenmkhmkommcaaGreat
open Go.RowKit

/-- A slice that begins at the call's own row. -/
theorem Gives.cut {w w' : World} {a : Option Addr} {n c k : Nat} {l m : List UInt8} (h : Own w' w.heap.size (.slice a n c) l) (hb : Below w.heap.size w w') (hk : k ≤ n) (hm : l.take k = m) : Gives w m (.returned (.slice a k c)) w' := by
  have hk' := hk
  subst hm
  refine ⟨a, k, c, rfl, ?_, hb⟩
  obtain ⟨h1, h2⟩ := h
  rcases h2 with ⟨h2, h0⟩ | ⟨g, cap, cur, hv, hg, hh, hn, hmx, hc, ht⟩
  · simp only [Value.slice.injEq] at h2
    obtain ⟨rfl, rfl, rfl⟩ := h2
    obtain rfl : k = 0 := by omega
    rw [List.take_zero]
    exact Own.nil _ _
  · simp only [Value.slice.injEq] at hv
    obtain ⟨rfl, rfl, rfl⟩ := hv
    have hl : (l.take k).length = k := by rw [List.length_take]; omega
    refine ⟨by rw [cs_length, hl, Nat.mul_one], Or.inr ⟨g, c, cur, by rw [hl], hg, hh, by omega, hmx, hc, ?_⟩⟩
    rw [hl, Nat.mul_one]
    have e : cs (l.take k) = (cs l).take k := by simp [cs]
    rw [e, ← ht, List.take_take, Nat.min_eq_left (by omega)]

theorem high_byte {y : Nat} (h : y < 18446744073709551616) : 0 ≤ (y : Int) / 72057594037927936 ∧ (y : Int) / 72057594037927936 ≤ 255 := by omega
theorem noise_room (n : Nat) {t : Nat} (h : t ≤ 3000) (b : UInt8) : (putL n 8 ++ lcgL n t).length + [b].length ≤ 1000000000 := by
  rw [List.length_append, putL_length, lcgL_length, List.length_singleton]
  omega
theorem noise_end (n : Nat) {t m : Nat} (ht : t = 0 ∨ 8 + t ≤ m) (hlt : ¬ 8 + t < m) : (putL n 8 ++ lcgL n t).take m = noiseL n m := by
  unfold noiseL
  rcases ht with rfl | ht
  · rw [show m - 8 = 0 from by omega]
  · rw [show m - 8 = t from by omega]

theorem lcgI_succ (n t : Nat) : lcgI n (t + 1) = lcg (lcgI n t) := rfl
theorem lcg_more {n t x : Nat} (hx : x = lcgI n t) : lcg x = lcgI n (t + 1) := by rw [hx, lcgI_succ]
theorem noise_more {n t x : Nat} (hx : x = lcgI n t) : putL n 8 ++ lcgL n t ++ [UInt8.ofNat ((lcg x : Int) / 72057594037927936).toNat] = putL n 8 ++ lcgL n (t + 1) := by
  have h1 := lcg_byte (lcg_lt x)
  have e : lcgB n t = UInt8.ofNat (lcg x / 72057594037927936) := by unfold lcgB; rw [lcgI_succ, hx]
  rw [lcgL_succ, List.append_assoc, e, ← h1, Int.toNat_natCast, UInt8.ofNat_toNat]

set_option maxHeartbeats 1000000 in
theorem rNoise (n s : Int) (w : World) (hs : s ≤ 3000) (hn0 : 0 ≤ n) (hn : n ≤ 18446744073709551615) (hlo : -9223372036854775808 ≤ s) :
    Calls Tryz.prog 72 #[.int .u64 n, .int .i64 s] w (Gives w (noiseL n.toNat s.toNat)) := by
  obtain ⟨n, rfl⟩ : ∃ q : Nat, n = q := ⟨n.toNat, by omega⟩
  rw [Int.toNat_natCast]
  go_enter Tryz.func72, Tryz.ntmps72
  go_wp2_with fail
  refine (rPut 8 (n : Int) 8 w (by omega) (by omega) (by omega) (by omega) (by omega)).mono ?_
  rintro e w1 ⟨a1, m1, c1, rfl, o1, hb1⟩
  rw [Int.toNat_natCast, show Int.toNat 8 = 8 from rfl] at o1
  have HO : Hid (Own w1 w.heap.size (.slice a1 m1 c1) (putL n 8 ++ lcgL n 0)) := by have := o1; rwa [show lcgL n 0 = [] from rfl, List.append_nil]
  clear o1
  go_wp2_with fail
  go_loopw [5, 6, 7] (fun v x i wr => ∃ (t : Nat), (t = 0 ∨ (8 + t : Int) ≤ s) ∧ i = .int .i64 ((8 + t : Nat) : Int) ∧ x = .int .u64 ((lcgI n t : Nat) : Int) ∧ Own wr w.heap.size v (putL n 8 ++ lcgL n t) ∧ Below w.heap.size w wr) (fun _ _ i _ => (s - intOf i).toNat)
  case atStart => exact ⟨0, Or.inl rfl, rfl, rfl, HO.out, hb1⟩
  case round =>
    obtain ⟨t, ht, rfl, rfl, ho, hb⟩ := hrel
    clear HO hb1
    have ht3 : t ≤ 3000 := by omega
    by_cases hlt : ((8 + t : Nat) : Int) < s
    · obtain ⟨x, hx⟩ : ∃ x, x = lcgI n t := ⟨_, rfl⟩
      have HY : Hid (lcg x = lcgI n (t + 1)) := lcg_more hx
      have HL : Hid (putL n 8 ++ lcgL n t ++ [UInt8.ofNat ((lcg x : Int) / 72057594037927936).toNat] = putL n 8 ++ lcgL n (t + 1)) := noise_more hx
      rw [← hx]
      have hw := lcg_int x
      have hxl : x < 18446744073709551616 := by rw [hx]; exact lcgI_lt (by omega) _
      have hyl : lcg x < 18446744073709551616 := lcg_lt x
      clear hx
      generalize lcg x = y at *
      obtain ⟨i, hi⟩ : ∃ i : Nat, i = 8 + t := ⟨_, rfl⟩
      rw [← hi] at hlt ⊢
      have Hi : Hid (i = 8 + t) := hi
      have hi3 : i ≤ 3100 := by omega
      clear hi ht
      have hz := noise_room n ht3 (UInt8.ofNat ((y : Int) / 72057594037927936).toNat)
      have hhb := high_byte hyl
      have hsz : w.heap.size ≤ wr.heap.size := hb.size
      go_wp2_with (at_builtin; refine wpList_app _ rfl _ _ rfl w.heap.size _ _ rfl (ho.below (below_alloc _ _) (Nat.le_refl _)) _ 1 1 [UInt8.ofNat ((y : Int) / 72057594037927936).toNat] rfl (Bs.one _ _ hhb.1 hhb.2) hz (by rw [World.size_alloc]; exact Nat.le_succ_of_le hsz) ?_; intro v2 w2 hown2 hbel2)
      go_roundw
      case rel => exact ⟨t + 1, Or.inr (by have := Hi.out; omega), by rw [show ((i : Int) + 1) = ((8 + (t + 1) : Nat) : Int) from by have := Hi.out; omega], by rw [HY.out], by rw [← HL.out]; exact hown2, (hb.alloc hsz _).trans hbel2⟩
      case measure => simp [intOf]; omega
    · by_cases h0 : s < 0
      · have e : s.toNat = 0 := by omega
        have HE : Hid (noiseL n s.toNat = []) := by show _ = _; rw [e]; rfl
        clear e ht
        go_wp2_with fail
        go_ret
        exact Gives.mk (by rw [HE.out]; exact Own.nil _ _) hb
      · obtain ⟨m, rfl⟩ : ∃ m : Nat, s = m := ⟨s.toNat, by omega⟩
        obtain ⟨a5, m5, c5, rfl, hb5⟩ := Own.bs3 ho
        have hl5 : m5 = 8 + t := by have := hb5.len; rw [List.length_append, putL_length, lcgL_length] at this; omega
        have hm5 : m ≤ m5 := by omega
        have HE : Hid ((putL n 8 ++ lcgL n t).take m = noiseL n (m : Int).toNat) := by
          show _ = _
          rw [Int.toNat_natCast]
          exact noise_end n (ht.imp id fun h => by omega) (by omega)
        have HO5 : Hid (Own wr w.heap.size (.slice a5 m5 c5) (putL n 8 ++ lcgL n t)) := ho
        obtain ⟨hcut, hbc⟩ := Bs.cutHigh hb5 m hm5
        have hH : Hid (m ≤ m5) := hm5
        clear ht hl5 ho hbc hm5 hb5
        go_wp2_with fail
        go_ret
        exact Gives.cut HO5.out hb hH.out HE.out

end Go.Proofs.YtlenmkhmkommcaaGreat
