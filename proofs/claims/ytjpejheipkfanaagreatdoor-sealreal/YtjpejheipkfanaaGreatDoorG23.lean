/-
  2 texts in one. No statement of the seat is proved here.
-/
import Derived.Test.YtjpejheipkfanaaGreatDoorG22

/-
  The contract of layer 12's reference's noted: one thing more in the book. Condition: a book of at most a thousand things.
-/
namespace Go.Proofs.YtjpejheipkfanaaGreatDoor
open Go.RowKit
set_option linter.unusedVariables false

theorem infoEn : (Tryz.prog.info? 88).map (fun i => (i.zero, i.size, i.bytes)) = some (some (.agg #[.slice none 0 0, .slice none 0 0, .slice none 0 0, .slice none 0 0, .slice none 0 0]), 5, 120) := by kernel_rfl
theorem infoCh : (Tryz.prog.info? 99).map (fun i => (i.zero, i.size, i.bytes)) = some (some (.agg #[.slice none 0 0, .slice none 0 0, .slice none 0 0]), 3, 72) := by kernel_rfl
/-- Memory of A that was there. -/
def Old (A : Nat → Prop) (w : World) : Nat → Prop := fun j => A j ∧ j < w.heap.size
theorem BA.old {A : Nat → Prop} {w : World} {p : Option Addr} {m q : Nat} {l : List UInt8} (h : BA A w p m q l) : BA (Old A w) w p m q l := h.mono' fun j hj ha => ⟨ha, hj⟩
theorem elE.mono {A A' : Nat → Prop} {w : World} (hA : ∀ j, j < w.heap.size → A j → A' j) : ∀ x vs, elE A w x vs → elE A' w x vs := by
  rintro c vs ⟨p0, m0, q0, p1, m1, q1, p2, m2, q2, p3, m3, q3, p4, m4, q4, e, h0, h1, h2, h3, h4⟩
  exact ⟨p0, m0, q0, p1, m1, q1, p2, m2, q2, p3, m3, q3, p4, m4, q4, e, h0.mono' hA, h1.mono' hA, h2.mono' hA, h3.mono' hA, h4.mono' hA⟩
theorem elD.mono {A A' : Nat → Prop} {w : World} (hA : ∀ j, j < w.heap.size → A j → A' j) : ∀ x vs, elD A w x vs → elD A' w x vs := by
  rintro c vs ⟨p0, m0, q0, p1, m1, q1, p2, m2, q2, e, h0, h1, h2⟩
  exact ⟨p0, m0, q0, p1, m1, q1, p2, m2, q2, e, h0.mono' hA, h1.mono' hA, h2.mono' hA⟩
/-- What is old outlasts what is written to new memory. -/
theorem elE.new {A : Nat → Prop} {w0 w w' : World} {r : Option Nat} (g : w.grownBy w' r) (hs : w0.heap.size ≤ w.heap.size) (hr : ∀ j, r = some j → w0.heap.size ≤ j) : ∀ x vs, elE (Old A w0) w x vs → elE (Old A w0) w' x vs :=
  elE.keep g.size fun j hj ha => g.block j hj fun e => by have := hr j e.symm; have := ha.2; omega
theorem elD.new {A : Nat → Prop} {w0 w w' : World} {r : Option Nat} (g : w.grownBy w' r) (hs : w0.heap.size ≤ w.heap.size) (hr : ∀ j, r = some j → w0.heap.size ≤ j) : ∀ x vs, elD (Old A w0) w x vs → elD (Old A w0) w' x vs :=
  elD.keep g.size fun j hj ha => g.block j hj fun e => by have := hr j e.symm; have := ha.2; omega
theorem RS.old {A : Nat → Prop} {w : World} {S : SeaS} {d : Du} (h : RS A w S d) : RS (Old A w) w S d :=
  ⟨h.book.mono (elE.mono fun j hj ha => ⟨ha, hj⟩) fun j hj ha => ⟨ha, hj⟩, h.kids.mono (elD.mono fun j hj ha => ⟨ha, hj⟩) fun j hj ha => ⟨ha, hj⟩⟩
/-- With one thing more. -/
def SeaS.noted (S : SeaS) (k n b t s : List UInt8) : SeaS := { S.add k n b t s with reused := S.reused || S.other k n b t }
def rsLL (i : Bool) (ba : Option Addr) (bn bc : Nat) (ca : Option Addr) (cn cc : Nat) (q : Nat) (r f : Bool) : List Value := [.bool i, .slice ba bn bc, .slice ca cn cc, .int .u64 (q : Int), .bool r, .bool f]
theorem rsLL_one (i : Bool) (ba : Option Addr) (bn bc : Nat) (ca : Option Addr) (cn cc : Nat) (q : Nat) (r f : Bool) : ∀ v ∈ rsLL i ba bn bc ca cn cc q r f, v.oneCell' = true := by
  intro v hv
  simp only [rsLL, List.mem_cons, List.not_mem_nil, or_false] at hv
  rcases hv with rfl | rfl | rfl | rfl | rfl | rfl <;> rfl
theorem Kp.sets (w : World) (g : Nat) (us : List Value) (o : Nat) : Kp (fun j => j = g) w (w.setCells g o us) := by
  induction us generalizing w o with
  | nil => exact Kp.refl _ _
  | cons u us ih => exact (Kp.of_grown (but_set w g o u)).trans (ih _ _)
theorem any_step {l : List Ent} {t : Nat} {e : Ent} (hi : l[t]? = some e) (p : Ent → Bool) : (l.take (t + 1)).any p = ((l.take t).any p || p e) := by
  rw [List.take_add_one, hi, List.any_append]
  simp
theorem Kp.new {F : Nat → Prop} {w0 w w' : World} (h : Below w0.heap.size w0 w) (k : Kp F w w') (hF : ∀ j, F j → w0.heap.size ≤ j) : Below w0.heap.size w0 w' := below_kp h k h.size fun j hj hf => by have := hF j hf; omega

theorem five_one (p0 : Option Addr) (m0 q0 : Nat) (p1 : Option Addr) (m1 q1 : Nat) (p2 : Option Addr) (m2 q2 : Nat) (p3 : Option Addr) (m3 q3 : Nat) (p4 : Option Addr) (m4 q4 : Nat) : ∀ u ∈ [Value.slice p0 m0 q0, .slice p1 m1 q1, .slice p2 m2 q2, .slice p3 m3 q3, .slice p4 m4 q4], u.oneCell' = true := by
  intro v hv
  simp only [List.mem_cons, List.not_mem_nil, or_false] at hv
  rcases hv with rfl | rfl | rfl | rfl | rfl <;> rfl
set_option maxRecDepth 100000 in
set_option maxHeartbeats 8000000 in
theorem rNoted12 (w : World) {A : Nat → Prop} (hA : ∀ j, w.heap.size ≤ j → A j) {S : SeaS} {d : Du} (h : RS A w S d) {k n b t s : List UInt8} {ak an ab at' as' : Option Addr} {nk ck nn cn nb cb nt ct ns cs' : Nat} (hk : BA A w ak nk ck k) (hn : BA A w an nn cn n) (hb : BA A w ab nb cb b) (ht : BA A w at' nt ct t) (hs : BA A w as' ns cs' s) (hz : S.book.length ≤ 1000) :
    Calls Tryz.prog 44 #[rsV S d, .agg #[.slice ak nk ck, .slice an nn cn, .slice ab nb cb, .slice at' nt ct, .slice as' ns cs']] w fun e w' => ∃ d', e = .returned (rsV (S.noted k n b t s) d') ∧ RS A w' (S.noted k n b t s) d' ∧ Below w.heap.size w w' := by
  have HR : Hid (RS A w S d) := h
  have HO : Hid (RS (Old A w) w S d) := h.old
  have HK : Hid (BA (Old A w) w ak nk ck k) := hk.old
  have HN : Hid (BA (Old A w) w an nn cn n) := hn.old
  have HB : Hid (BA (Old A w) w ab nb cb b) := hb.old
  have HT : Hid (BA (Old A w) w at' nt ct t) := ht.old
  have HC : Hid (BA (Old A w) w as' ns cs' s) := hs.old
  have HAA : Hid (∀ j, w.heap.size ≤ j → A j) := hA
  have hbl : S.book.length = d.bn := Sl.len h.book
  have HL : Hid (S.book.length = d.bn) := hbl
  have hbn : d.bn ≤ 1000 := by omega
  have hcap := Sl.cap h.book
  clear h hk hn hb ht hs hbl hz hA
  obtain ⟨ba, bn, bc, ca, cn', cc⟩ := d
  obtain ⟨si, sb, sk, sq, sr, sf⟩ := S
  dsimp only at HL hbn hcap
  unfold rsV rsC
  dsimp only
  go_enter Tryz.func44, Tryz.ntmps44
  go_wp2_with fail
  obtain ⟨x2, hx2⟩ : ∃ x, x = w.heap.size := ⟨_, rfl⟩
  obtain ⟨x3, hx3⟩ : ∃ x, x = w.heap.size + 1 := ⟨_, rfl⟩
  obtain ⟨x4, hx4⟩ : ∃ x, x = w.heap.size + 1 + 1 := ⟨_, rfl⟩
  obtain ⟨x5, hx5⟩ : ∃ x, x = w.heap.size + 1 + 1 + 1 := ⟨_, rfl⟩
  have B2 : Blk ((((w.alloc (.cells #[.bool si, .slice ba bn bc, .slice ca cn' cc, .int .u64 (sq : Int), .bool sr, .bool sf] 31)).alloc (.cells #[.slice ak nk ck, .slice an nn cn, .slice ab nb cb, .slice at' nt ct, .slice as' ns cs'] 88)).alloc (.cells #[.bool false, .slice none 0 0, .slice none 0 0, .int .u64 0, .bool false, .bool false] 31)).alloc (.cells #[.bool si, .slice ba bn bc, .slice ca cn' cc, .int .u64 (sq : Int), .bool sr, .bool sf] 31)) w.heap.size [.bool si, .slice ba bn bc, .slice ca cn' cc, .int .u64 (sq : Int), .bool sr, .bool sf] 31 := (((Blk.new w _ _).old _).old _).old _
  have B3 : Blk ((((w.alloc (.cells #[.bool si, .slice ba bn bc, .slice ca cn' cc, .int .u64 (sq : Int), .bool sr, .bool sf] 31)).alloc (.cells #[.slice ak nk ck, .slice an nn cn, .slice ab nb cb, .slice at' nt ct, .slice as' ns cs'] 88)).alloc (.cells #[.bool false, .slice none 0 0, .slice none 0 0, .int .u64 0, .bool false, .bool false] 31)).alloc (.cells #[.bool si, .slice ba bn bc, .slice ca cn' cc, .int .u64 (sq : Int), .bool sr, .bool sf] 31)) (w.heap.size + 1) [.slice ak nk ck, .slice an nn cn, .slice ab nb cb, .slice at' nt ct, .slice as' ns cs'] 88 := ((Blk.newAt (w.alloc (.cells #[.bool si, .slice ba bn bc, .slice ca cn' cc, .int .u64 (sq : Int), .bool sr, .bool sf] 31)) _ _ _ (by simp) _ rfl).old _).old _
  have B4 : Blk ((((w.alloc (.cells #[.bool si, .slice ba bn bc, .slice ca cn' cc, .int .u64 (sq : Int), .bool sr, .bool sf] 31)).alloc (.cells #[.slice ak nk ck, .slice an nn cn, .slice ab nb cb, .slice at' nt ct, .slice as' ns cs'] 88)).alloc (.cells #[.bool false, .slice none 0 0, .slice none 0 0, .int .u64 0, .bool false, .bool false] 31)).alloc (.cells #[.bool si, .slice ba bn bc, .slice ca cn' cc, .int .u64 (sq : Int), .bool sr, .bool sf] 31)) (w.heap.size + 1 + 1) [.bool false, .slice none 0 0, .slice none 0 0, .int .u64 0, .bool false, .bool false] 31 := (Blk.newAt ((w.alloc (.cells #[.bool si, .slice ba bn bc, .slice ca cn' cc, .int .u64 (sq : Int), .bool sr, .bool sf] 31)).alloc (.cells #[.slice ak nk ck, .slice an nn cn, .slice ab nb cb, .slice at' nt ct, .slice as' ns cs'] 88)) _ _ _ (by simp) _ rfl).old _
  have B5 : Blk ((((w.alloc (.cells #[.bool si, .slice ba bn bc, .slice ca cn' cc, .int .u64 (sq : Int), .bool sr, .bool sf] 31)).alloc (.cells #[.slice ak nk ck, .slice an nn cn, .slice ab nb cb, .slice at' nt ct, .slice as' ns cs'] 88)).alloc (.cells #[.bool false, .slice none 0 0, .slice none 0 0, .int .u64 0, .bool false, .bool false] 31)).alloc (.cells #[.bool si, .slice ba bn bc, .slice ca cn' cc, .int .u64 (sq : Int), .bool sr, .bool sf] 31)) (w.heap.size + 1 + 1 + 1) [.bool si, .slice ba bn bc, .slice ca cn' cc, .int .u64 (sq : Int), .bool sr, .bool sf] 31 := Blk.newAt (((w.alloc (.cells #[.bool si, .slice ba bn bc, .slice ca cn' cc, .int .u64 (sq : Int), .bool sr, .bool sf] 31)).alloc (.cells #[.slice ak nk ck, .slice an nn cn, .slice ab nb cb, .slice at' nt ct, .slice as' ns cs'] 88)).alloc (.cells #[.bool false, .slice none 0 0, .slice none 0 0, .int .u64 0, .bool false, .bool false] 31)) _ _ _ (by simp) _ rfl
  have q1 : Below w.heap.size w ((((w.alloc (.cells #[.bool si, .slice ba bn bc, .slice ca cn' cc, .int .u64 (sq : Int), .bool sr, .bool sf] 31)).alloc (.cells #[.slice ak nk ck, .slice an nn cn, .slice ab nb cb, .slice at' nt ct, .slice as' ns cs'] 88)).alloc (.cells #[.bool false, .slice none 0 0, .slice none 0 0, .int .u64 0, .bool false, .bool false] 31)).alloc (.cells #[.bool si, .slice ba bn bc, .slice ca cn' cc, .int .u64 (sq : Int), .bool sr, .bool sf] 31)) := (((below_alloc w _).trans ((below_alloc _ _).mono (by simp))).trans ((below_alloc _ _).mono (by simp; omega))).trans ((below_alloc _ _).mono (by simp; omega))
  rw [← hx5] at B5 ⊢
  rw [← hx4] at B4 ⊢
  rw [← hx3] at B3 ⊢
  rw [← hx2] at B2 ⊢
  have hxx : x2 < x3 ∧ x3 < x4 ∧ x4 < x5 ∧ w.heap.size ≤ x2 := by omega
  clear hx2 hx3 hx4 hx5
  generalize (((w.alloc (.cells #[.bool si, .slice ba bn bc, .slice ca cn' cc, .int .u64 (sq : Int), .bool sr, .bool sf] 31)).alloc (.cells #[.slice ak nk ck, .slice an nn cn, .slice ab nb cb, .slice at' nt ct, .slice as' ns cs'] 88)).alloc (.cells #[.bool false, .slice none 0 0, .slice none 0 0, .int .u64 0, .bool false, .bool false] 31)).alloc (.cells #[.bool si, .slice ba bn bc, .slice ca cn' cc, .int .u64 (sq : Int), .bool sr, .bool sf] 31) = w1 at *
  have Q1 : Hid (Below w.heap.size w w1) := q1
  have H2 : Hid (Blk w1 x2 [.bool si, .slice ba bn bc, .slice ca cn' cc, .int .u64 (sq : Int), .bool sr, .bool sf] 31) := B2
  have H3 : Hid (Blk w1 x3 [.slice ak nk ck, .slice an nn cn, .slice ab nb cb, .slice at' nt ct, .slice as' ns cs'] 88) := B3
  have H4 : Hid (Blk w1 x4 [.bool false, .slice none 0 0, .slice none 0 0, .int .u64 0, .bool false, .bool false] 31) := B4
  have H5 : Hid (Blk w1 x5 (rsLL si ba bn bc ca cn' cc sq sr sf) 31) := B5
  clear B2 B3 B4 B5 q1
  go_loopw [6] (fun i wr => ∃ t0 : Nat, t0 ≤ bn ∧ i = .int .i64 (t0 : Int) ∧ Hid (Blk wr x5 (rsLL si ba bn bc ca cn' cc sq (sr || (sb.take t0).any fun e => e.un k n b t) sf) 31 ∧ Kp (fun j => j = x5) w1 wr)) (fun i _ => bn - (intOf i).toNat)
  case atStart => exact ⟨0, Nat.zero_le _, rfl, by simpa using H5.out, Kp.refl _ _⟩
  case round =>
    clear H5
    obtain ⟨t0, ht0, rfl, HI⟩ := hrel
    have QR : Hid (Below w.heap.size w wr) := Kp.new Q1.out HI.out.2 fun j hj => by omega
    have R2 := HI.out.2.blk H2.out (by omega)
    have c21 : wr.cell? ⟨x2, 1, none⟩ = some (.slice ba bn bc) := R2.cell 1
    have l2 : x2 < wr.heap.size := R2.lt
    clear R2
    by_cases hlt : t0 < bn
    · have i0 : (t0 : Int) < (bn : Int) := by omega
      obtain ⟨e, he⟩ : ∃ e, sb[t0]? = some e := ⟨_, List.getElem?_eq_getElem (by rw [HL.out]; exact hlt)⟩
      obtain ⟨bb, oo, vs, hba, hlb, hrg, hvl, p0, m0, q0, p1, m1, q1, p2, m2, q2, p3, m3, q3, p4, m4, q4, rfl, b0, b1, b2, b3, b4⟩ := Sl.at (HR.out.grow QR.out).book he
      dsimp only at hba
      rw [hba] at c21
      clear hba
      have e0 : wr.cell? ⟨bb, oo + t0 * 5, none⟩ = some (.slice p0 m0 q0) := hrg 0 _ rfl
      have e1 : wr.cell? ⟨bb, oo + t0 * 5 + 1, none⟩ = some (.slice p1 m1 q1) := hrg 1 _ rfl
      have e2 : wr.cell? ⟨bb, oo + t0 * 5 + 2, none⟩ = some (.slice p2 m2 q2) := hrg 2 _ rfl
      have e3 : wr.cell? ⟨bb, oo + t0 * 5 + 3, none⟩ = some (.slice p3 m3 q3) := hrg 3 _ rfl
      have e4 : wr.cell? ⟨bb, oo + t0 * 5 + 4, none⟩ = some (.slice p4 m4 q4) := hrg 4 _ rfl
      obtain ⟨D0, hD0⟩ : ∃ D, D = decide (e.key = k) := ⟨_, rfl⟩
      obtain ⟨D1, hD1⟩ : ∃ D, D = decide (e.nonce = n) := ⟨_, rfl⟩
      obtain ⟨D2, hD2⟩ : ∃ D, D = decide (e.beside = b) := ⟨_, rfl⟩
      obtain ⟨D3, hD3⟩ : ∃ D, D = decide (e.text = t) := ⟨_, rfl⟩
      have C0 : Hid (∀ u, Below wr.heap.size wr u → Calls Tryz.prog 20 #[.slice p0 m0 q0, .slice ak nk ck] u fun e w' => e = .returned (.bool D0) ∧ Below u.heap.size u w') := fun u hu => by rw [hD0]; exact sameD u (b0.below' hu).1 (HK.out.1.below (QR.out.trans (hu.mono QR.out.size)) (Nat.le_refl _))
      have C1 : Hid (∀ u, Below wr.heap.size wr u → Calls Tryz.prog 20 #[.slice p1 m1 q1, .slice an nn cn] u fun e w' => e = .returned (.bool D1) ∧ Below u.heap.size u w') := fun u hu => by rw [hD1]; exact sameD u (b1.below' hu).1 (HN.out.1.below (QR.out.trans (hu.mono QR.out.size)) (Nat.le_refl _))
      have C2 : Hid (∀ u, Below wr.heap.size wr u → Calls Tryz.prog 20 #[.slice p2 m2 q2, .slice ab nb cb] u fun e w' => e = .returned (.bool D2) ∧ Below u.heap.size u w') := fun u hu => by rw [hD2]; exact sameD u (b2.below' hu).1 (HB.out.1.below (QR.out.trans (hu.mono QR.out.size)) (Nat.le_refl _))
      have C3 : Hid (∀ u, Below wr.heap.size wr u → Calls Tryz.prog 20 #[.slice p3 m3 q3, .slice at' nt ct] u fun e w' => e = .returned (.bool D3) ∧ Below u.heap.size u w') := fun u hu => by rw [hD3]; exact sameD u (b3.below' hu).1 (HT.out.1.below (QR.out.trans (hu.mono QR.out.size)) (Nat.le_refl _))
      have HD : Hid ((sb.take (t0 + 1)).any (fun e => e.un k n b t) = ((sb.take t0).any (fun e => e.un k n b t) || (D0 && D1 && (!D2 || !D3)))) := by show _ = _; rw [any_step he, hD0, hD1, hD2, hD3]; rfl
      have BE := Blk.new wr #[.slice p0 m0 q0, .slice p1 m1 q1, .slice p2 m2 q2, .slice p3 m3 q3, .slice p4 m4 q4] 88
      have Q2 : Hid (Below wr.heap.size wr (wr.alloc (.cells #[.slice p0 m0 q0, .slice p1 m1 q1, .slice p2 m2 q2, .slice p3 m3 q3, .slice p4 m4 q4] 88))) := below_alloc wr _
      clear b0 b1 b2 b3 b4 hrg he hD0 hD1 hD2 hD3
      have R3 := HI.out.2.blk H3.out (by omega)
      have HR3 : Hid (Blk wr x3 [.slice ak nk ck, .slice an nn cn, .slice ab nb cb, .slice at' nt ct, .slice as' ns cs'] 88) := R3
      have c30 : wr.cell? ⟨x3, 0, none⟩ = some (.slice ak nk ck) := R3.cell 0
      have l3 : x3 < wr.heap.size := R3.lt
      clear R3
      go_wp2_with fail
      obtain ⟨xe, hxe⟩ : ∃ x, x = wr.heap.size := ⟨_, rfl⟩
      rw [← hxe] at BE ⊢
      have HBE : Hid (Blk (wr.alloc (.cells #[.slice p0 m0 q0, .slice p1 m1 q1, .slice p2 m2 q2, .slice p3 m3 q3, .slice p4 m4 q4] 88)) xe [.slice p0 m0 q0, .slice p1 m1 q1, .slice p2 m2 q2, .slice p3 m3 q3, .slice p4 m4 q4] 88) := BE
      clear hxe BE c21 l2 e0 e1 e2 e3 e4 c30 l3
      generalize wr.alloc (.cells #[.slice p0 m0 q0, .slice p1 m1 q1, .slice p2 m2 q2, .slice p3 m3 q3, .slice p4 m4 q4] 88) = w2 at *
      refine (C0.out w2 Q2.out).mono ?_
      rintro _ w3 ⟨rfl, hb3⟩
      have Q3 : Hid (Below wr.heap.size wr w3) := Q2.out.trans (hb3.mono Q2.out.size)
      have E3 := HBE.out.below hb3 HBE.out.lt
      have f31 : w3.cell? ⟨xe, 1, none⟩ = some (.slice p1 m1 q1) := E3.cell 1
      have g31 : w3.cell? ⟨x3, 1, none⟩ = some (.slice an nn cn) := (HR3.out.below Q3.out HR3.out.lt).cell 1
      have le3 := E3.lt
      have lx3 := lt_of_cell g31
      dsimp only at lx3
      have NX : Hid (∀ u, Below wr.heap.size wr u → (D0 && D1 && (!D2 || !D3)) = false → Blk u x5 (rsLL si ba bn bc ca cn' cc sq (sr || (sb.take (t0 + 1)).any fun e => e.un k n b t) sf) 31 ∧ Kp (fun j => j = x5) w1 u) := fun u hu hf => by
        rw [HD.out, hf, Bool.or_false]
        exact ⟨HI.out.1.below hu HI.out.1.lt, HI.out.2.trans (Kp.of_below hu)⟩
      have NY : Hid (∀ u, Below wr.heap.size wr u → (D0 && D1 && (!D2 || !D3)) = true → Blk (u.setCell ⟨x5, 4, none⟩ (.bool true)) x5 (rsLL si ba bn bc ca cn' cc sq (sr || (sb.take (t0 + 1)).any fun e => e.un k n b t) sf) 31 ∧ Kp (fun j => j = x5) w1 (u.setCell ⟨x5, 4, none⟩ (.bool true))) := fun u hu hf => by
        rw [HD.out, hf, Bool.or_true, Bool.or_true]
        exact ⟨(HI.out.1.below hu HI.out.1.lt).setC 4 (.bool true), (HI.out.2.trans (Kp.of_below hu)).trans (Kp.of_grown (but_set u x5 4 _))⟩
      have XC : Hid (∀ u, Below wr.heap.size wr u → (∃ v, u.cell? ⟨x5, 4, none⟩ = some v) ∧ u.frozen? ⟨x5, 4, none⟩ = false ∧ x5 < u.heap.size) := fun u hu => ⟨⟨_, (HI.out.1.below hu HI.out.1.lt).cell 4⟩, (HI.out.1.below hu HI.out.1.lt).free 4, (HI.out.1.below hu HI.out.1.lt).lt⟩
      cases D0 with
      | false =>
        clear E3 f31 g31
        go_wp2_with fail
        go_roundw
        case rel => exact ⟨t0 + 1, by omega, by go_num, NX.out _ Q3.out rfl⟩
        case measure => simp [intOf]; omega
      | true =>
        go_wp2_with fail
        refine (C1.out w3 Q3.out).mono ?_
        rintro _ w4 ⟨rfl, hb4⟩
        have Q4 : Hid (Below wr.heap.size wr w4) := Q3.out.trans (hb4.mono Q3.out.size)
        have E4 := E3.below hb4 E3.lt
        have f42 : w4.cell? ⟨xe, 2, none⟩ = some (.slice p2 m2 q2) := E4.cell 2
        have g42 : w4.cell? ⟨x3, 2, none⟩ = some (.slice ab nb cb) := (HR3.out.below Q4.out HR3.out.lt).cell 2
        have le4 := E4.lt
        have lx4 := lt_of_cell g42
        dsimp only at lx4
        clear E3 f31 g31 le3 lx3
        cases D1 with
        | false =>
          clear E4 f42 g42
          go_wp2_with fail
          go_roundw
          case rel => exact ⟨t0 + 1, by omega, by go_num, NX.out _ Q4.out rfl⟩
          case measure => simp [intOf]; omega
        | true =>
          go_wp2_with fail
          refine (C2.out w4 Q4.out).mono ?_
          rintro _ w5 ⟨rfl, hb5⟩
          have Q5 : Hid (Below wr.heap.size wr w5) := Q4.out.trans (hb5.mono Q4.out.size)
          have E5 := E4.below hb5 E4.lt
          have f53 : w5.cell? ⟨xe, 3, none⟩ = some (.slice p3 m3 q3) := E5.cell 3
          have g53 : w5.cell? ⟨x3, 3, none⟩ = some (.slice at' nt ct) := (HR3.out.below Q5.out HR3.out.lt).cell 3
          have le5 := E5.lt
          have lx5 := lt_of_cell g53
          dsimp only at lx5
          obtain ⟨⟨y5, hy5⟩, hf5, hl5⟩ := XC.out w5 Q5.out
          clear E4 f42 g42 le4 lx4
          cases D2 with
          | false =>
            clear E5 f53 g53
            go_wp2_with fail
            go_roundw
            case rel => exact ⟨t0 + 1, by omega, by go_num, NY.out _ Q5.out rfl⟩
            case measure => simp [intOf]; omega
          | true =>
            go_wp2_with fail
            refine (C3.out w5 Q5.out).mono ?_
            rintro _ w6 ⟨rfl, hb6⟩
            have Q6 : Hid (Below wr.heap.size wr w6) := Q5.out.trans (hb6.mono Q5.out.size)
            obtain ⟨⟨y6, hy6⟩, hf6, hl6⟩ := XC.out w6 Q6.out
            clear E5 f53 g53 le5 lx5 hy5 hf5 hl5
            cases D3 with
            | false =>
              go_wp2_with fail
              go_roundw
              case rel => exact ⟨t0 + 1, by omega, by go_num, NY.out _ Q6.out rfl⟩
              case measure => simp [intOf]; omega
            | true =>
              clear hy6 hf6
              go_wp2_with fail
              go_roundw
              case rel => exact ⟨t0 + 1, by omega, by go_num, NX.out _ Q6.out rfl⟩
              case measure => simp [intOf]; omega
    · have i0 : ¬ (t0 : Int) < (bn : Int) := by omega
      have hall : sb.take t0 = sb := List.take_of_length_le (by rw [HL.out]; omega)
      have HI' : Hid (Blk wr x5 (rsLL si ba bn bc ca cn' cc sq (sr || sb.any fun e => e.un k n b t) sf) 31 ∧ Kp (fun j => j = x5) w1 wr) := by
        have := HI.out
        rw [hall] at this
        exact this
      clear HI hall
      obtain ⟨R, hR⟩ : ∃ R, R = (sr || sb.any fun e => e.un k n b t) := ⟨_, rfl⟩
      rw [← hR] at HI'
      have HRR : Hid (R = (sr || sb.any fun e => e.un k n b t)) := hR
      clear hR
      have R5 := HI'.out.1
      have c51 : wr.cell? ⟨x5, 1, none⟩ = some (.slice ba bn bc) := R5.cell 1
      have f51 := R5.free 1
      have l5 := R5.lt
      have S5 := R5.setC 1 (.slice none 0 0)
      have k2 : Kp (fun j => j = x5) w1 (wr.setCell ⟨x5, 1, none⟩ (.slice none 0 0)) := HI'.out.2.trans (Kp.of_grown (but_set wr x5 1 _))
      have S5' : Hid (Blk (wr.setCell ⟨x5, 1, none⟩ (.slice none 0 0)) x5 (rsLL si none 0 0 ca cn' cc sq R sf) 31) := S5
      have K2 : Hid (Kp (fun j => j = x5) w1 (wr.setCell ⟨x5, 1, none⟩ (.slice none 0 0))) := k2
      clear R5 S5 k2 HI'
      have Q2 : Hid (Below w.heap.size w (wr.setCell ⟨x5, 1, none⟩ (.slice none 0 0))) := Kp.new Q1.out K2.out fun j hj => by omega
      have R2 := K2.out.blk H2.out (by omega)
      have d21 : (wr.setCell ⟨x5, 1, none⟩ (.slice none 0 0)).cell? ⟨x2, 1, none⟩ = some (.slice ba bn bc) := R2.cell 1
      have d51 : (wr.setCell ⟨x5, 1, none⟩ (.slice none 0 0)).cell? ⟨x5, 1, none⟩ = some (.slice none 0 0) := S5'.out.cell 1
      have SRC := (HO.out.grow Q2.out).book
      go_upto_region 9 with fail
      generalize wr.setCell ⟨x5, 1, none⟩ (.slice none 0 0) = w2 at *
      have l2x : x2 < w2.heap.size := R2.lt
      have l5x : x5 < w2.heap.size := S5'.out.lt
      have l3x : x3 < w2.heap.size := (K2.out.blk H3.out (by omega)).lt
      clear R2 c51 f51 l5
      go_upto_region 10 with (at_builtin; (refine wpList_slapp (elE (Old A w)) 5 120 27 88 _ Tryz.underlying27 infoEn rfl (by decide) (by decide) w2 rfl (.tmp 52) (.tmp 54) rfl w2.heap.size (.slice none 0 0) [] rfl (OwS.nil _ _ _ _ _) (Old A w) ba bn bc sb rfl SRC (by simp [HL.out]; omega) (Nat.le_refl _) (fun w' x vs hg hx => elE.new hg Q2.out.size (fun j hj => by simp [Value.ownBlock] at hj) x vs hx) ?_); intro v3 w3 o3 g3
                              have S53 : Blk w3 x5 (rsLL si none 0 0 ca cn' cc sq R sf) 31 := S5'.out.same (g3.block _ S5'.out.lt (by simp [Value.ownBlock]))
                              have c351 : w3.cell? ⟨x5, 1, none⟩ = some (.slice none 0 0) := S53.cell 1
                              have f351 := S53.free 1
                              have l351 := S53.lt
                              obtain ⟨a3, n3, c3, rfl, hl3⟩ := o3.shape)
      have g3b : Below w2.heap.size w2 w3 := ⟨g3.os, g3.tape, g3.output, g3.size, fun j hj => g3.block j hj (by simp [Value.ownBlock])⟩
      have Q3 : Below w.heap.size w w3 := Q2.out.trans (g3b.mono Q2.out.size)
      have S54 : Blk (w3.setCell ⟨x5, 1, none⟩ (.slice a3 n3 c3)) x5 (rsLL si a3 n3 c3 ca cn' cc sq R sf) 31 := S53.setC 1 (.slice a3 n3 c3)
      have k34 : Kp (fun j => j = x5) w3 (w3.setCell ⟨x5, 1, none⟩ (.slice a3 n3 c3)) := Kp.of_grown (but_set w3 x5 1 _)
      have Q4 : Hid (Below w.heap.size w (w3.setCell ⟨x5, 1, none⟩ (.slice a3 n3 c3))) := Kp.new Q3 k34 fun j hj => by omega
      have o4 : OwS (elE (Old A w)) 5 88 (w3.setCell ⟨x5, 1, none⟩ (.slice a3 n3 c3)) w2.heap.size (.slice a3 n3 c3) ([] ++ sb) := o3.keep (elE.keep k34.size fun j hj ha => k34.block j hj fun e => by have := ha.2; omega) (fun j hj => k34.block j (o3.lt j hj).2 (fun e => by have := (o3.lt j hj).1; omega))
      have K4 : Hid (Kp (fun j => j = x5) w1 (w3.setCell ⟨x5, 1, none⟩ (.slice a3 n3 c3))) := (K2.out.trans (Kp.of_below g3b)).trans k34
      have hsz4 : w2.heap.size ≤ (w3.setCell ⟨x5, 1, none⟩ (.slice a3 n3 c3)).heap.size := Nat.le_trans g3b.size k34.size
      clear S53 c351 f351 l351 g3 o3 g3b Q3 k34 SRC d21 d51
      generalize w3.setCell ⟨x5, 1, none⟩ (.slice a3 n3 c3) = w4 at *
      have B33 := K4.out.blk H3.out (by omega)
      have e30 : w4.cell? ⟨x3, 0, none⟩ = some (.slice ak nk ck) := B33.cell 0
      have e31 : w4.cell? ⟨x3, 1, none⟩ = some (.slice an nn cn) := B33.cell 1
      have e32 : w4.cell? ⟨x3, 2, none⟩ = some (.slice ab nb cb) := B33.cell 2
      have e33 : w4.cell? ⟨x3, 3, none⟩ = some (.slice at' nt ct) := B33.cell 3
      have e34 : w4.cell? ⟨x3, 4, none⟩ = some (.slice as' ns cs') := B33.cell 4
      have l33 := B33.lt
      have c451 : w4.cell? ⟨x5, 1, none⟩ = some (.slice a3 n3 c3) := S54.cell 1
      have l45 := S54.lt
      have bA := below_alloc w4 (.cells #[.slice ak nk ck, .slice an nn cn, .slice ab nb cb, .slice at' nt ct, .slice as' ns cs'] 88)
      have Q5 : Below w.heap.size w (w4.alloc (.cells #[.slice ak nk ck, .slice an nn cn, .slice ab nb cb, .slice at' nt ct, .slice as' ns cs'] 88)) := Q4.out.trans (bA.mono Q4.out.size)
      have o5 : OwS (elE (Old A w)) 5 88 (w4.alloc (.cells #[.slice ak nk ck, .slice an nn cn, .slice ab nb cb, .slice at' nt ct, .slice as' ns cs'] 88)) w2.heap.size (.slice a3 n3 c3) ([] ++ sb) := o4.keep (elE.keep bA.size fun j hj ha => bA.block j hj) (fun j hj => bA.block j (o4.lt j hj).2)
      have ON : Sl (elE (Old A w)) 5 (fun _ => True) (w4.alloc (.cells #[.slice ak nk ck, .slice an nn cn, .slice ab nb cb, .slice at' nt ct, .slice as' ns cs'] 88)) (some ⟨w4.heap.size, 0, none⟩) 1 1 [⟨k, n, b, t, s⟩] := Sl.one (Blk.new w4 _ _) ⟨rfl, five_one _ _ _ _ _ _ _ _ _ _ _ _ _ _ _, ak, nk, ck, an, nn, cn, ab, nb, cb, at', nt, ct, as', ns, cs', rfl, HK.out.below' Q5, HN.out.below' Q5, HB.out.below' Q5, HT.out.below' Q5, HC.out.below' Q5⟩ trivial
      have S55 : Blk (w4.alloc (.cells #[.slice ak nk ck, .slice an nn cn, .slice ab nb cb, .slice at' nt ct, .slice as' ns cs'] 88)) x5 (rsLL si a3 n3 c3 ca cn' cc sq R sf) 31 := S54.old _
      have K5 : Kp (fun j => j = x5) w1 (w4.alloc (.cells #[.slice ak nk ck, .slice an nn cn, .slice ab nb cb, .slice at' nt ct, .slice as' ns cs'] 88)) := K4.out.trans (Kp.of_below bA)
      have hsz5 : w2.heap.size ≤ ((w4.alloc (.cells #[.slice ak nk ck, .slice an nn cn, .slice ab nb cb, .slice at' nt ct, .slice as' ns cs'] 88))).heap.size := Nat.le_trans hsz4 bA.size
      clear B33
      go_upto_region 11 with (at_builtin; go_must (refine wpList_slapp (elE (Old A w)) 5 120 27 88 _ Tryz.underlying27 infoEn rfl (by decide) (by decide) (w4.alloc (.cells #[.slice ak nk ck, .slice an nn cn, .slice ab nb cb, .slice at' nt ct, .slice as' ns cs'] 88)) rfl (.tmp 58) (.tmp 60) rfl w2.heap.size (.slice a3 n3 c3) ([] ++ sb) rfl o5 (fun _ => True) (some ⟨w4.heap.size, 0, none⟩) 1 1 [⟨k, n, b, t, s⟩] rfl ON (by simp [HL.out]; omega) hsz5 (fun w' x vs hg hx => elE.new hg Q5.size (fun j hj => by have := (o5.lt j hj).1; have := Q2.out.size; omega) x vs hx) ?_); intro v6 w6 o6 g6
                              have no5 : ¬ (Value.slice a3 n3 c3).ownBlock = some x5 := fun e => by have := (o5.lt _ e).1; omega
                              have S56 : Blk w6 x5 (rsLL si a3 n3 c3 ca cn' cc sq R sf) 31 := S55.same (g6.block _ S55.lt (fun e => no5 e.symm))
                              obtain ⟨a6, n6, c6, rfl, hl6⟩ := o6.shape
                              have c651 : w6.cell? ⟨x5, 1, none⟩ = some (.slice a3 n3 c3) := S56.cell 1
                              have f651 := S56.free 1
                              have l651 := S56.lt)
      have k67 : Kp (fun j => j = x5) w6 (w6.setCell ⟨x5, 1, none⟩ (.slice a6 n6 c6)) := Kp.of_grown (but_set w6 x5 1 _)
      have S57 : Hid (Blk (w6.setCell ⟨x5, 1, none⟩ (.slice a6 n6 c6)) x5 (rsLL si a6 n6 c6 ca cn' cc sq R sf) 31) := S56.setC 1 (.slice a6 n6 c6)
      have hsz6 := g6.size
      have o7 : Hid (OwS (elE (Old A w)) 5 88 (w6.setCell ⟨x5, 1, none⟩ (.slice a6 n6 c6)) w2.heap.size (.slice a6 n6 c6) ([] ++ sb ++ [⟨k, n, b, t, s⟩])) := o6.keep (elE.keep k67.size fun j hj ha => k67.block j hj fun e => by have := ha.2; omega) (fun j hj => k67.block j (o6.lt j hj).2 (fun e => by have := (o6.lt j hj).1; omega))
      have B46 : Blk w6 x4 [.bool false, .slice none 0 0, .slice none 0 0, .int .u64 0, .bool false, .bool false] 31 := (K5.blk H4.out (by omega)).same (g6.block _ (K5.blk H4.out (by omega)).lt (fun e => by have := (o5.lt _ e.symm).1; omega))
      have B47 : Hid (Blk (w6.setCell ⟨x5, 1, none⟩ (.slice a6 n6 c6)) x4 [.bool false, .slice none 0 0, .slice none 0 0, .int .u64 0, .bool false, .bool false] 31) := k67.blk B46 (by omega)
      have Q7 : Hid (Below w.heap.size w (w6.setCell ⟨x5, 1, none⟩ (.slice a6 n6 c6))) := Kp.new (⟨Q5.os ▸ g6.os, Q5.tape ▸ g6.tape, Q5.output ▸ g6.output, Nat.le_trans Q5.size g6.size, fun j hj => (g6.block j (Nat.lt_of_lt_of_le hj Q5.size) (fun e => by have := (o5.lt _ e.symm).1; have := Q2.out.size; omega)).trans (Q5.block j hj)⟩ : Below w.heap.size w w6) k67 fun j hj => by omega
      have hsz7 : w2.heap.size ≤ (w6.setCell ⟨x5, 1, none⟩ (.slice a6 n6 c6)).heap.size := Nat.le_trans (Nat.le_trans hsz5 hsz6) k67.size
      clear S56 c651 f651 l651 g6 o6 B46 k67 o5 ON S55 K5 hsz5 bA Q5 o4 e30 e31 e32 e33 e34 c451 S54 hsz6
      generalize w6.setCell ⟨x5, 1, none⟩ (.slice a6 n6 c6) = w7 at *
      go_wp2_with (first
        | ((with_reducible refine at_ld 31 ?_); (refine ld 31 (.tmp 5) 6 sizeRS _ Tryz.underlying31 rfl x5 0 (rsLL si a6 n6 c6 ca cn' cc sq R sf) rfl S57.out.whole rfl ?_))
        | ((with_reducible refine at_st 31 ?_); (refine st' 31 (.tmp 4) (.tmp 63) 6 sizeRS x4 0 (rsLL si a6 n6 c6 ca cn' cc sq R sf) rfl (rsLL_one _ _ _ _ _ _ _ _ _ _) (B47.out.there 0 6 (by simp)) rfl rfl ?_); intro w8 hw8
           have B48 : Hid (Blk w8 x4 (rsLL si a6 n6 c6 ca cn' cc sq R sf) 31) := by rw [hw8]; exact B47.out.setsW _ rfl
           have K78 : Hid (Kp (fun j => j = x4) w7 w8) := by rw [hw8]; exact Kp.sets w7 x4 _ 0
           clear hw8))
      have k78 := K78.out
      refine bodyPost_ret (results_cell_row Tryz.results44 _ _ x4 31 (rsLL si a6 n6 c6 ca cn' cc sq R sf).toArray (0, 0) _ rfl B48.out Tryz.underlying31 rfl (by kernel_rfl)) rfl ?_
      have Q8 : Below w.heap.size w w8 := Kp.new Q7.out k78 fun j hj => by omega
      have o8 : OwS (elE (Old A w)) 5 88 w8 w2.heap.size (.slice a6 n6 c6) ([] ++ sb ++ [⟨k, n, b, t, s⟩]) := o7.out.keep (elE.keep k78.size fun j hj ha => k78.block j hj fun e => by have := ha.2; omega) (fun j hj => k78.block j (o7.out.lt j hj).2 (fun e => by have := (o7.out.lt j hj).1; omega))
      rw [List.nil_append] at o8
      have hQ2 := Q2.out.size
      have hbk := o8.sl3 (A := A) fun j hj _ => HAA.out j (by omega)
      have hkd := (HO.out.grow Q8).kids
      refine ⟨⟨a6, n6, c6, ca, cn', cc⟩, ?_, ⟨?_, ?_⟩, Q8⟩
      · rw [HRR.out]
        rfl
      · exact hbk.mono (elE.mono fun j _ ha => ha.1) fun _ _ h => h
      · exact hkd.mono (elD.mono fun j _ ha => ha.1) fun _ _ h => h.1

end Go.Proofs.YtjpejheipkfanaaGreatDoor

/-
  The contract of layer 12's program's New: a sealer, its book empty. No condition.
-/
namespace Go.Proofs.YtjpejheipkfanaaGreatDoor
open Go.RowKit
set_option linter.unusedVariables false

def noneK {κ : Type} : κ → Option Value := fun _ => none
theorem fst_new (i : Bool) : fstK (SeaS.new i) = noneK := rfl
theorem kid_new (i : Bool) : kidK (SeaS.new i) = noneK := rfl
theorem txt_new (i : Bool) : TxtK (SeaS.new i) noneK := fun o => rfl
theorem builtBook (m1 m2 : Option Nat) : Tryz.prog.built 50 [(1, .map m1), (2, .map m2)] = some #[.int .i64 0, .map m1, .map m2] := by kernel_rfl
theorem builtSea (b : Bool) (c m1 m2 : Value) : Tryz.prog.built 55 [(0, .bool b), (2, .agg #[c, m1, m2])] = some #[.bool b, .pointer none, c, m1, m2, .bool false, .bool false, .int .u64 0, .map none] := by kernel_rfl
theorem mkP (w : World) : Sem.run Tryz.prog (Instr.makeMap 47 none) w = .ok (.map (some w.heap.size)) (w.alloc (.map #[] 0)) := rfl
theorem mkO (w : World) : Sem.run Tryz.prog (Instr.makeMap 48 none) w = .ok (.map (some w.heap.size)) (w.alloc (.map #[] 0)) := rfl
theorem mkE (w : World) : Sem.run Tryz.prog (Instr.makeMap 53 none) w = .ok (.map (some w.heap.size)) (w.alloc (.map #[] 0)) := rfl

set_option maxHeartbeats 1000000 in
theorem oNewBook (w : World) : Calls Tryz.prog 18 #[] w fun e w' => ∃ m1 m2, e = .returned (.agg #[.int .i64 0, .map (some m1), .map (some m2)]) ∧ m1 ≠ m2 ∧ w.heap.size ≤ m1 ∧ w.heap.size ≤ m2 ∧ Mks kvP okKP w' m1 noneK ∧ Mks kvO okKO w' m2 noneK ∧ Below w.heap.size w w' := by
  have h1 := mkP
  have h2 := mkO
  have h3 := builtBook
  go_enter Tryz.func18, Tryz.ntmps18
  go_wp2_with fail
  refine bodyPost_ret (results_cell_row rfl _ _ w.heap.size 50 #[.int .i64 0, .map (some (w.heap.size + 1)), .map (some (w.heap.size + 1 + 1))] (0, 0) _ rfl (((Blk.new w _ _).old _).old _) Tryz.underlying50 rfl (by kernel_rfl)) rfl ?_
  refine ⟨_, _, rfl, by omega, by omega, by omega, ?_, ?_, ?_⟩
  · have h := Mks.new kvP okKP (w.alloc (.cells #[.int .i64 0, .map (some (w.heap.size + 1)), .map (some (w.heap.size + 1 + 1))] 50))
    have e : (w.alloc (.cells #[.int .i64 0, .map (some (w.heap.size + 1)), .map (some (w.heap.size + 1 + 1))] 50)).heap.size = w.heap.size + 1 := by simp
    rw [e] at h
    exact h.same (heap_alloc_old _ _ h.lt)
  · have h := Mks.new kvO okKO ((w.alloc (.cells #[.int .i64 0, .map (some (w.heap.size + 1)), .map (some (w.heap.size + 1 + 1))] 50)).alloc (.map #[] 0))
    have e : ((w.alloc (.cells #[.int .i64 0, .map (some (w.heap.size + 1)), .map (some (w.heap.size + 1 + 1))] 50)).alloc (.map #[] 0)).heap.size = w.heap.size + 1 + 1 := by simp
    rw [e] at h
    exact h
  · exact ((below_alloc w _).trans ((below_alloc _ _).mono (below_alloc w _).size)).trans ((below_alloc _ _).mono (by simp; omega))

/-- What a new sealer is. -/
def NewS (i : Bool) (w : World) (e : Ending) (w' : World) : Prop := ∃ r U M, e = .returned (.pointer (some ⟨r, 0, none⟩)) ∧ Se U w' r (SeaS.new i) M ∧ (∀ j, U j → w.heap.size ≤ j) ∧ Below w.heap.size w w'
theorem seC_new (i : Bool) (M : SeaM) : seC (SeaS.new i) M = [.bool i, .pointer M.tb, .int .i64 0, .map (some M.m1), .map (some M.m2), .bool false, .bool false, .int .u64 0, .map M.ks] := rfl

set_option maxHeartbeats 1000000 in
theorem oSNew (i : Bool) (w : World) : Calls Tryz.prog 7 #[.bool i] w (NewS i w) := by
  have h1 := mkE
  have h3 := builtSea
  cases i with
  | true =>
    go_enter Tryz.func7, Tryz.ntmps7
    go_wp2_with fail
    refine (oNewBook w).mono ?_
    rintro e w1 ⟨m1, m2, rfl, hne, hm1, hm2, k1, k2, hb1⟩
    go_wp2_with fail
    go_ret
    have hB : Blk ((w1.alloc (.cells #[.bool true, .pointer none, .int .i64 0, .map (some m1), .map (some m2), .bool false, .bool false, .int .u64 0, .map (some (w1.heap.size + 1))] 55)).alloc (.map #[] 0)) w1.heap.size (seC (SeaS.new true) ⟨m1, m2, none, some (w1.heap.size + 1)⟩) 55 := (Blk.new w1 _ _).old _
    have h3 := Mks.new kvP okKP (w1.alloc (.cells #[.bool true, .pointer none, .int .i64 0, .map (some m1), .map (some m2), .bool false, .bool false, .int .u64 0, .map (some (w1.heap.size + 1))] 55))
    have e : (w1.alloc (.cells #[.bool true, .pointer none, .int .i64 0, .map (some m1), .map (some m2), .bool false, .bool false, .int .u64 0, .map (some (w1.heap.size + 1))] 55)).heap.size = w1.heap.size + 1 := by simp
    rw [e] at h3
    have l1 := k1.lt
    have l2 := k2.lt
    have hs := hb1.size
    have q : Below w1.heap.size w1 ((w1.alloc (.cells #[.bool true, .pointer none, .int .i64 0, .map (some m1), .map (some m2), .bool false, .bool false, .int .u64 0, .map (some (w1.heap.size + 1))] 55)).alloc (.map #[] 0)) := (below_alloc w1 _).trans ((below_alloc _ _).mono (below_alloc w1 _).size)
    generalize (w1.alloc (.cells #[.bool true, .pointer none, .int .i64 0, .map (some m1), .map (some m2), .bool false, .bool false, .int .u64 0, .map (some (w1.heap.size + 1))] 55)).alloc (.map #[] 0) = w9 at *
    have l3 := h3.lt
    refine ⟨w1.heap.size, fun j => w.heap.size ≤ j ∧ j < w9.heap.size, ⟨m1, m2, none, some (w1.heap.size + 1)⟩, rfl, ⟨fun j hj => hj.2, ⟨hs, by omega⟩, hB, ⟨hm1, by dsimp only; omega⟩, ⟨hm2, by dsimp only; omega⟩, hne, k1.same (q.block _ l1), ⟨noneK, k2.same (q.block _ l2), txt_new true⟩, fun _ => ⟨w1.heap.size + 1, rfl, ⟨by omega, l3⟩, by dsimp only; omega, by dsimp only; omega, h3⟩, fun h => (by cases h), by decide⟩, fun j hj => hj.1, hb1.trans (q.mono hs)⟩
  | false =>
    go_enter Tryz.func7, Tryz.ntmps7
    go_wp2_with fail
    refine (oNewBook w).mono ?_
    rintro e w1 ⟨m1, m2, rfl, hne, hm1, hm2, k1, k2, hb1⟩
    go_wp2_with fail
    refine (oBuild _).mono ?_
    rintro e w2 ⟨g, rfl, hg, hT, hb2⟩
    have hlg : g < w2.heap.size := hT.lt
    have l1 := k1.lt
    have l2 := k2.lt
    have hs := hb1.size
    have hB1 := (Blk.new w1 #[.bool false, .pointer none, .int .i64 0, .map (some m1), .map (some m2), .bool false, .bool false, .int .u64 0, .map none] 55)
    have q1 : Below w1.heap.size w1 w2 := (below_alloc w1 _).trans (hb2.mono (below_alloc w1 _).size)
    have hB2 : Blk w2 w1.heap.size [.bool false, .pointer none, .int .i64 0, .map (some m1), .map (some m2), .bool false, .bool false, .int .u64 0, .map none] 55 := hB1.below hb2 hB1.lt
    have hgr : g ≠ w1.heap.size := fun e => by
      rw [e] at hT
      unfold Blk at hT hB2
      rw [hB2] at hT
      simp only [Option.some.injEq, Obj.cells.injEq] at hT
      exact absurd hT.2.1 (by decide)
    have hg1 : w1.heap.size ≤ g := Nat.le_trans (below_alloc w1 _).size hg
    have c1 : w2.cell? ⟨w1.heap.size, 1, none⟩ = some (.pointer none) := hB2.cell 1
    have f1 := hB2.free 1
    have lr := hB2.lt
    have hB3 : Hid (Blk (w2.setCell ⟨w1.heap.size, 1, none⟩ (.pointer (some ⟨g, 0, none⟩))) w1.heap.size (seC (SeaS.new false) ⟨m1, m2, some ⟨g, 0, none⟩, none⟩) 55) := hB2.setC 1 _
    have HT : Hid (Blk (w2.setCell ⟨w1.heap.size, 1, none⟩ (.pointer (some ⟨g, 0, none⟩))) g (cs tabT) 84) := hT.setO (p := ⟨w1.heap.size, 1, none⟩) hgr _
    have Q : Hid (Below w1.heap.size w1 (w2.setCell ⟨w1.heap.size, 1, none⟩ (.pointer (some ⟨g, 0, none⟩)))) := q1.setCell (p := ⟨w1.heap.size, 1, none⟩) (Nat.le_refl _) _
    have hz : (w2.setCell ⟨w1.heap.size, 1, none⟩ (.pointer (some ⟨g, 0, none⟩))).heap.size = w2.heap.size := by simp [World.setCell]
    clear hg hT hb2 hB1 q1 hB2
    go_wp2_with fail
    go_ret
    generalize w2.setCell ⟨w1.heap.size, 1, none⟩ (.pointer (some ⟨g, 0, none⟩)) = w9 at *
    exact ⟨w1.heap.size, fun j => w.heap.size ≤ j ∧ j < w9.heap.size, ⟨m1, m2, some ⟨g, 0, none⟩, none⟩, rfl, ⟨fun j hj => hj.2, ⟨hs, by omega⟩, hB3.out, ⟨hm1, by dsimp only; omega⟩, ⟨hm2, by dsimp only; omega⟩, hne, k1.same (Q.out.block _ l1), ⟨noneK, k2.same (Q.out.block _ l2), txt_new false⟩, fun h => (by cases h), fun _ => ⟨g, rfl, ⟨by omega, by omega⟩, HT.out⟩, by decide⟩, fun j hj => hj.1, hb1.trans (Q.out.mono hs)⟩

end Go.Proofs.YtjpejheipkfanaaGreatDoor
