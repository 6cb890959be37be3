/-
  3 texts in one. No statement of the seat is proved here.
-/
import Derived.Test.YtbifikeecmaakaaG25
import Derived.BigQuiet
import Derived.Deep.Matrix
/-
  The contract of layer 14's program: Open. Conditions: fewer than 5000 writes; the power is there.
-/
namespace Go.Proofs.Ytbifikeecmaakaa
open Go.RowKit

/-- The anchor that counts behind some sectors. -/
def seqO (C : CelS) : Nat → AncS
  | 0 => zeroA
  | n + 1 => pickA (seqO C n) (getA (C.l.getD n [])).1
theorem pickA_zero (b : List UInt8) : pickA zeroA (getA b).1 = (getA b).1 := by
  unfold pickA
  rcases getA_seq b with h | h
  · rw [if_pos (by show (0 : Int) < _; omega)]
  · rw [h.2]
    rfl
theorem seqO_two (C : CelS) : seqO C 2 = openA C := by
  show pickA (pickA zeroA (getA (C.l.getD 0 [])).1) (getA (C.l.getD 1 [])).1 = _
  rw [pickA_zero]
  rfl
theorem seqO_ok (C : CelS) : ∀ n, okA (seqO C n)
  | 0 => Or.inr rfl
  | n + 1 => by
    show okA (pickA (seqO C n) (getA (C.l.getD n [])).1)
    unfold pickA
    split
    · exact okA_get _
    · exact seqO_ok C n
/-- Behind some of Open's rounds. -/
structure OpI (w : World) (k c r : Nat) (C : CelS) (j : Nat) (p q : Tri) (wr : World) : Prop where
  kk : Kk wr k c r ⟨C, seqO C j⟩ p q
  be : Below w.heap.size w wr
  nw : Anc (fun i => w.heap.size ≤ i ∧ ¬ i = k) wr (seqO C j) p q
theorem OpI.grow {w wr w' : World} {k c r : Nat} {C : CelS} {j : Nat} {p q : Tri} (h : OpI w k c r C j p q wr) (hb : Below wr.heap.size wr w') : OpI w k c r C j p q w' := ⟨h.kk.grow hb, h.be.trans (hb.mono h.be.size), h.nw.below hb⟩
/-- What Open hands back. -/
def OpenR (w : World) (c r : Nat) (C : CelS) (e : Ending) (w' : World) : Prop := ∃ k p q, e = .returned (.tuple #[.pointer (some ⟨k, 0, none⟩), .int .i64 0]) ∧ w.heap.size ≤ k ∧ Kk w' k c r ⟨C, openA C⟩ p q ∧ Below w.heap.size w w'
/-- The same, and that the anchor lies in new memory. -/
def OpenF (w : World) (c r : Nat) (C : CelS) (e : Ending) (w' : World) : Prop := ∃ k p q, e = .returned (.tuple #[.pointer (some ⟨k, 0, none⟩), .int .i64 0]) ∧ w.heap.size ≤ k ∧ Kk w' k c r ⟨C, openA C⟩ p q ∧ Below w.heap.size w w' ∧ Anc (fun i => w.heap.size ≤ i ∧ ¬ i = k) w' (openA C) p q
set_option maxRecDepth 100000 in
set_option maxHeartbeats 4000000 in
theorem oKOpenF (w : World) {c r : Nat} {C : CelS} (h : Ck (UC c r) (UC c r) w c r C) {mm : Nat} (hf : C.fit mm) (hmm : mm ≤ 5000) (hd : C.p.down = false) : Calls Try.prog 21 #[.pointer (some ⟨c, 0, none⟩)] w (OpenF w c r C) := by
  have hlc := h.b.lt
  have hlt : ∀ j, UC c r j → j < w.heap.size := h.lt
  obtain ⟨k, hk⟩ : ∃ k, k = w.heap.size := ⟨_, rfl⟩
  obtain ⟨W0, hW0⟩ : ∃ W0, W0 = w.alloc (.cells #[.pointer (some ⟨c, 0, none⟩), .int .i64 0, .int .i64 0, .int .i64 0, .int .i64 0, .int .i64 0, .int .i64 0, .slice none 0 0, .slice none 0 0] 114) := ⟨_, rfl⟩
  have z0 : Blk W0 k (.pointer (some ⟨c, 0, none⟩) :: anc zeroA t0 t0) 114 := by rw [hW0]; exact Blk.newAt w _ _ k hk.symm _ rfl
  have k0 : Below w.heap.size w W0 := by rw [hW0]; exact below_alloc _ _
  have hnc : k ≠ c := fun e => by have := hlt c (Or.inl rfl); omega
  have hnr : k ≠ r := fun e => by have := hlt r (Or.inr rfl); omega
  have I0 : Hid (OpI w k c r C 0 t0 t0 W0) := ⟨⟨h.keep (G := fun _ => False) (Kp.of_below k0) (fun _ _ h => h), z0, Anc.zero _ _, hnc, hnr, Or.inr rfl⟩, k0, Anc.zero _ _⟩
  have HF : Hid (C.fit mm) := hf
  have HD : Hid (C.p.down = false) := hd
  clear h z0 k0 hlt hf hd
  go_enter Try.func21, Try.ntmps21
  go_wp2_with fail
  rw [← hW0, ← hk]
  have HKW : Hid (k = w.heap.size) := hk
  clear hW0 hk
  go_loopw [15] (fun i wr => ∃ (j : Nat) (p q : Tri), j ≤ 2 ∧ i = .int .i64 (j : Int) ∧ Hid (OpI w k c r C j p q wr)) (fun i _ => 2 - (intOf i).toNat)
  case atStart => exact ⟨0, t0, t0, Nat.zero_le _, rfl, I0⟩
  case round =>
    clear I0
    obtain ⟨j, p, q, hj, rfl, HI⟩ := hrel
    have c0 : wr.cell? ⟨k, 0, none⟩ = some (.pointer (some ⟨c, 0, none⟩)) := HI.out.kk.b.cell 0
    have hlk := HI.out.kk.b.lt
    by_cases hlt : j < 2
    · have i0 : (j : Int) < 2 := by omega
      obtain ⟨X, hX⟩ : ∃ X, X = C.l.getD j [] := ⟨_, rfl⟩
      have hXl : X.length = 1024 := by rw [hX]; exact (HF.out.sec (k := j) (by omega)).2
      have hrd : C.read (j : Int) = (X, 0) := by rw [read_eq (by omega) HD.out, hX]
      have CR : Hid (Calls Try.prog 57 #[.pointer (some ⟨c, 0, none⟩), .int .i64 (j : Int)] wr fun e w' => ∃ p m q, e = .returned (.tuple #[.slice p m q, .int .i64 0]) ∧ Bs w' p m q X ∧ Below wr.heap.size wr w') := by
        have := oCRead wr HI.out.kk.ck HF.out hmm (j : Int) ⟨by omega, by omega⟩
        rw [hrd] at this
        exact this.mono (by rintro e w' ⟨p, m, q, he, hb, hl⟩; exact ⟨p, m, q, he, hb.1, hl⟩)
      have HN : Hid (seqO C (j + 1) = if (seqO C j).seq < (getA X).1.seq then (getA X).1 else seqO C j) := by show seqO C (j + 1) = _; rw [hX]; rfl
      have HOK := okA_get X
      clear hX hrd
      go_wp2_with fail
      refine CR.out.mono ?_
      rintro e x1 ⟨bp, bm, bc, rfl, HB, hb1⟩
      have hbm : bm ≤ 100000 := by have := HB.len; omega
      have CG : Hid (Calls Try.prog 11 #[.slice bp bm bc] x1 (GotA x1 (getA X))) := oGetA x1 HB hbm
      have I1 : Hid (OpI w k c r C j p q x1) := HI.out.grow hb1
      generalize getA X = G at *
      obtain ⟨A, gc⟩ := G
      dsimp only at HN HOK
      clear CR HB hb1 hbm HI c0
      go_wp2_with fail
      refine CG.out.mono ?_
      rintro e x2 ⟨p2, q2, rfl, an2, hb2⟩
      dsimp only at an2
      dsimp only
      have I2 : Hid (OpI w k c r C j p q x2) := I1.out.grow hb2
      have HA2 : Hid (Anc (fun i => ¬ Fk k c r i ∧ w.heap.size ≤ i) x2 A p2 q2) := an2.mono fun i _ hi => ⟨fun hu => by have := I1.out.kk.lt i hu; omega, by have := I1.out.be.size; omega⟩
      obtain ⟨g, hg⟩ : ∃ g, g = x2.heap.size := ⟨_, rfl⟩
      have zg : Blk (x2.alloc (.cells #[.int .i64 0, .int .i64 0, .int .i64 0, .int .i64 0, .int .i64 0, .int .i64 0, .slice none 0 0, .slice none 0 0] 25)) g zanc 25 := Blk.newAt x2 _ _ g hg.symm _ rfl
      have kg : Below x2.heap.size x2 (x2.alloc (.cells #[.int .i64 0, .int .i64 0, .int .i64 0, .int .i64 0, .int .i64 0, .int .i64 0, .slice none 0 0, .slice none 0 0] 25)) := below_alloc _ _
      unfold anV
      clear CG an2 hb2 I1
      go_wp2_with ((with_reducible refine at_st 25 ?_); (refine st' 25 (.tmp 8) (.tmp 33) 8 sizeAn x2.heap.size 0 (anc A p2 q2) rfl (anc_one _ _ _) (by rw [← hg]; exact zg.there 0 8 (by simp [zanc])) rfl rfl ?_); intro x3 hx3; have b3 : Blk x3 g (anc A p2 q2) 25 := (by rw [hx3, ← hg]; exact zg.setsW _ rfl); have k3 : Below x2.heap.size x2 x3 := (by rw [hx3]; exact below_sets (Nat.le_refl _) _ kg 0); clear hx3)
      rw [← hg]
      have I3 : Hid (OpI w k c r C j p q x3) := I2.out.grow k3
      have HA3 : Hid (Anc (fun i => ¬ Fk k c r i ∧ w.heap.size ≤ i) x3 A p2 q2) := HA2.out.below k3
      have ca : x3.cell? ⟨g, 0, none⟩ = some (.int .i64 A.seq) := b3.cell 0
      have cl : x3.cell? ⟨k, 1, none⟩ = some (.int .i64 (seqO C j).seq) := I3.out.kk.b.cell 1
      have lg := b3.lt
      have lk := I3.out.kk.b.lt
      have BK : Hid (Blk x3 k (.pointer (some ⟨c, 0, none⟩) :: anc (seqO C j) p q) 114) := I3.out.kk.b
      have HOKH : Hid (okA A) := HOK
      clear I2 HA2 zg kg k3 hg HOK
      by_cases hs : (seqO C j).seq < A.seq
      · have HO : Hid (seqO C (j + 1) = A) := by show _ = _; rw [HN.out, if_pos hs]
        clear HN
        generalize (seqO C j).seq = ls at *
        obtain ⟨sa, has⟩ : ∃ sa, sa = A.seq := ⟨_, rfl⟩
        rw [← has] at ca hs
        clear has
        go_quiet (fail)
        have kd := below_drewN' x3 nq
        have I3d : Hid (OpI w k c r C j p q (x3.drewN nq)) := I3.out.grow kd
        have HA3d : Hid (Anc (fun i => ¬ Fk k c r i ∧ w.heap.size ≤ i) (x3.drewN nq) A p2 q2) := HA3.out.below kd
        have b3d := b3.below kd b3.lt
        have bK := I3d.out.kk.b
        have lg' := b3d.lt
        have lk' := bK.lt
        clear I3 HA3 b3 BK ca cl lg lk kd
        generalize x3.drewN nq = x5 at *
        go_wp2_with (first | ((with_reducible refine at_ld 25 ?_); (refine ld 25 (.tmp 8) 8 sizeAn _ Try.underlying25 rfl g 0 (anc A p2 q2) rfl b3d.whole rfl ?_)) | ((with_reducible refine at_st 25 ?_); (refine st' 25 (.tmp 46) (.tmp 44) 8 sizeAn k 1 (anc A p2 q2) rfl (anc_one _ _ _) (bK.there 1 8 (by simp [anc])) rfl rfl ?_); intro x4 hx4; have b4 := bK.sets (anc A p2 q2) 1 (by simp [anc]); rw [keep_put (by simp [anc]) (by simp [anc]), ← hx4] at b4; have g4 : Kp (fun i => i = k) x5 x4 := (by rw [hx4]; exact Kp.of_grown (but_cells' _ _ _ _)); clear hx4))
        have I4 : Hid (OpI w k c r C (j + 1) p2 q2 x4) := by
          refine ⟨⟨I3d.out.kk.ck.keep g4 (fun i hi e => by rcases hi with hi | hi; exact hnc (e.symm.trans hi); exact hnr (e.symm.trans hi)), ?_, ?_, hnc, hnr, ?_⟩, ?_, ?_⟩
          · show Blk x4 k (.pointer (some ⟨c, 0, none⟩) :: anc (seqO C (j + 1)) p2 q2) _
            rw [HO.out]
            exact b4
          · show Anc _ x4 (seqO C (j + 1)) p2 q2
            rw [HO.out]
            exact (HA3d.out.mono fun _ _ hi => hi.1).kp g4 (fun i hi e => hi (Or.inl e))
          · show okA (seqO C (j + 1))
            rw [HO.out]
            exact HOKH.out
          · exact below_kp I3d.out.be g4 I3d.out.be.size (fun i hi e => by have := HKW.out; omega)
          · rw [HO.out]
            exact (HA3d.out.mono (A' := fun i => w.heap.size ≤ i ∧ ¬ i = k) fun _ _ hi => ⟨hi.2, fun e => hi.1 (Or.inl e)⟩).kp g4 (fun i hi e => hi.2 e)
        clear b4 g4 bK HA3d I3d HO b3d
        go_roundw
        case rel => exact ⟨j + 1, p2, q2, by omega, by go_num, I4⟩
        case measure => simp [intOf]; omega
      · have HO : Hid (seqO C (j + 1) = seqO C j) := by show _ = _; rw [HN.out, if_neg hs]
        have I4 : Hid (OpI w k c r C (j + 1) p q x3) := by
          have e : OpI w k c r C j p q x3 := I3.out
          refine ⟨⟨e.kk.ck, ?_, ?_, hnc, hnr, ?_⟩, e.be, ?_⟩
          · show Blk x3 k (.pointer (some ⟨c, 0, none⟩) :: anc (seqO C (j + 1)) p q) _
            rw [HO.out]
            exact e.kk.b
          · show Anc _ x3 (seqO C (j + 1)) p q
            rw [HO.out]
            exact e.kk.an
          · show okA (seqO C (j + 1))
            rw [HO.out]
            exact e.kk.ok
          · rw [HO.out]
            exact e.nw
        clear HN HO I3 HA3 BK b3
        generalize (seqO C j).seq = ls at *
        generalize A.seq = sa at *
        go_quiet (fail)
        have kd := below_drewN' x3 nq
        have I5 : Hid (OpI w k c r C (j + 1) p q (x3.drewN nq)) := I4.out.grow kd
        clear I4 kd ca cl lg lk
        generalize x3.drewN nq = x5 at *
        go_wp2_with fail
        go_roundw
        case rel => exact ⟨j + 1, p, q, by omega, by go_num, I5⟩
        case measure => simp [intOf]; omega
    · obtain rfl : j = 2 := by omega
      clear c0
      go_wp2_with fail
      refine bodyPost_ret (v := .tuple #[.pointer (some ⟨k, 0, none⟩), .int .i64 0]) (by simp [results, Try.results21, go_sem]) rfl ?_
      refine ⟨k, p, q, rfl, by have := HKW.out; omega, ?_, HI.out.be, ?_⟩
      · rw [← seqO_two]
        exact HI.out.kk
      · rw [← seqO_two]
        exact HI.out.nw
theorem oKOpen (w : World) {c r : Nat} {C : CelS} (h : Ck (UC c r) (UC c r) w c r C) {mm : Nat} (hf : C.fit mm) (hmm : mm ≤ 5000) (hd : C.p.down = false) : Calls Try.prog 21 #[.pointer (some ⟨c, 0, none⟩)] w (OpenR w c r C) :=
  (oKOpenF w h hf hmm hd).mono (by rintro e w' ⟨k, p, q, h1, h2, h3, h4, _⟩; exact ⟨k, p, q, h1, h2, h3, h4⟩)

theorem oKOpenNil (w : World) : Calls Try.prog 21 #[.pointer none] w fun e w' => e = .returned (.tuple #[.pointer none, .int .i64 1]) ∧ w = w' := by
  go_enter Try.func21, Try.ntmps21
  go_wp2_with fail
  refine bodyPost_ret (v := .tuple #[.pointer none, .int .i64 1]) (by simp [results, Try.results21, go_sem]) rfl ?_
  exact ⟨rfl, rfl⟩

end Go.Proofs.Ytbifikeecmaakaa

/-
  How an argument that is a slice of bytes is opened into a plain list. No condition; no statement of the seat is proved here.
-/
namespace Go.Proofs.Ytbifikeecmaakaa
open Go.RowKit Go.ChangeShapes Go.WideShapes Go.ChangeAt

theorem Bs.of_trod {H : Type} {enc : TypeId × Value → H} {W : World} {base : Nat} {held : Bool} {fuel : Nat} {a : Option Addr} {n c : Nat} {x : DataW H × List MemPlace}
    (h : DataW.trod enc Try.prog W base (fun _ => true) held fuel 22 [.slice a n c] = some x) : ∃ l, Bs W a n c l := by
  rcases open_ints Try.underlying22 Try.underlying5 (by kernel_rfl) h with ⟨hcs, _⟩ | ⟨x, l, c, zs, hcs, _, hl, hm, hz, _, hcell, hwz⟩
  · simp at hcs
    obtain ⟨rfl, rfl, rfl⟩ := hcs
    exact ⟨[], Bs.nil W⟩
  · simp at hcs
    obtain ⟨rfl, rfl, rfl⟩ := hcs
    exact Bs.of_row (zs := zs) (Or.inr ⟨_, rfl, hl, hm, by simpa using hz, hcell, hwz⟩)

end Go.Proofs.Ytbifikeecmaakaa

/-
  How slices of structs and bytes that were handed in are opened. No condition; no statement of the seat is proved here.
-/
namespace Go.Proofs.Ytbifikeecmaakaa
open Go.RowKit Go.ChangeShapes Go.WideShapes Go.ChangeAt

theorem Rel2.map {α β : Type} {R : α → β → Prop} {f : Nat → α} {g : Nat → β} : ∀ {L : List Nat}, (∀ i ∈ L, R (f i) (g i)) → Rel2 R (L.map f) (L.map g)
  | [], _ => trivial
  | a :: L, h => ⟨h a (by simp), Rel2.map fun i hi => h i (by simp [hi])⟩
theorem len_cons {l : List Value} {n : Nat} (h : l.length = n + 1) : ∃ a m, l = a :: m ∧ m.length = n := by
  cases l with
  | nil => simp at h
  | cons a m => exact ⟨a, m, rfl, by simpa using h⟩
theorem len_zero {l : List Value} (h : l.length = 0) : l = [] := List.length_eq_zero_iff.1 h
/-- Rows in memory, each of them a struct, are a slice of structs. -/
theorem Sl.of_rows {α : Type} (z0 : α) {el : World → α → List Value → Prop} {sz : Nat} {A : Nat → Prop} {W : World} {base : Nat} {y : Addr} {n c : Nat} (hsz : 0 < sz) (hl : n ≤ c) (hm : c ≤ maxLen) (hA : ∀ j, j < W.heap.size → A j)
    (hrow : ∀ i, i < n → ∃ cs', W.cells? base (y.add (i * sz)) sz = some cs' ∧ ∃ x, Row el sz W x cs') : ∃ l, Sl el sz A W (some y) n c l := by
  haveI : Inhabited α := ⟨z0⟩
  have hex : ∀ i, i < n → ∃ z : α × List Value, W.cells? base (y.add (i * sz)) sz = some z.2 ∧ Row el sz W z.1 z.2 := by
    intro i hi
    obtain ⟨cs', h1, x, h2⟩ := hrow i hi
    exact ⟨(x, cs'), h1, h2⟩
  obtain ⟨f, hf⟩ := Deep.choose_lt hex
  have hrel : Rel2 (Row el sz W) ((List.range n).map fun i => (f i).1) ((List.range n).map fun i => (f i).2) := Rel2.map fun i hi => (hf i (by simpa using hi)).2
  refine ⟨(List.range n).map fun i => (f i).1, (List.range n).map fun i => (f i).2, hrel, by simp, hl, hm, by simp, fun hn => ?_⟩
  obtain ⟨b, o, s⟩ := y
  have h00 := (hf 0 hn).1
  obtain ⟨_, hlen0, h0⟩ := World.cells?_some h00
  have hc0 := h0 0 hsz
  have hlt : 0 < (f 0).2.length := by omega
  rw [List.getElem?_eq_getElem hlt] at hc0
  have hs : s = none := by
    have := World.cell?_spot hc0
    simpa [Addr.add] using this
  subst hs
  rw [add_none, add_none] at hc0
  refine ⟨b, o, rfl, lt_of_cell hc0, hA _ (lt_of_cell hc0), ?_⟩
  intro j v hj
  have hflen := flatC_len (rel_lens hrel)
  have hjl : j < n * sz := by
    have := (List.getElem?_eq_some_iff.1 hj).1
    rw [hflen] at this
    simpa using this
  have hi : j / sz < n := (Nat.div_lt_iff_lt_mul hsz).2 hjl
  have hr : j % sz < sz := Nat.mod_lt _ hsz
  have hdm : j / sz * sz + j % sz = j := by rw [Nat.mul_comm]; exact Nat.div_add_mod j sz
  have hfl := flat_at (rel_lens hrel) (i := j / sz) (vs := (f (j / sz)).2) (by simp [hi]) (j % sz) hr
  rw [hdm, hj] at hfl
  obtain ⟨_, _, hcell⟩ := World.cells?_some (hf (j / sz) hi).1
  have hc := hcell (j % sz) hr
  rw [add_none, add_none, ← hfl, Nat.add_assoc, hdm] at hc
  exact hc

theorem BA.of_trod {H : Type} {enc : TypeId × Value → H} {W : World} {base : Nat} {held : Bool} {fuel : Nat} {a : Option Addr} {n c : Nat} {x : DataW H × List MemPlace} {A : Nat → Prop} (hA : ∀ j, j < W.heap.size → A j)
    (h : DataW.trod enc Try.prog W base (fun _ => true) held fuel 22 [.slice a n c] = some x) : ∃ l, BA A W a n c l := by
  obtain ⟨l, hb⟩ := Bs.of_trod h
  refine ⟨l, hb, fun hn => ?_⟩
  obtain ⟨b, o, ha, hlt, _⟩ := hb.at hn
  exact ⟨_, ha, hA _ hlt, hlt⟩
/-- A slice in a field. -/
theorem slice_of_trod {H : Type} {enc : TypeId × Value → H} {W : World} {base : Nat} {held : Bool} {fuel : Nat} {t e : TypeId} {v : Value} {x : DataW H × List MemPlace} (ht : Try.prog.underlying t = some (.slice e))
    (h : DataW.trod enc Try.prog W base (fun _ => true) held fuel t [v] = some x) : ∃ a n c, v = .slice a n c := by
  rcases Deep.open_slice ht h with ⟨hcs, _⟩ | ⟨y, len, cap, m, n', D, Pl, hcs, _⟩
  · simp at hcs
    exact ⟨_, _, _, hcs⟩
  · simp at hcs
    exact ⟨_, _, _, hcs⟩

end Go.Proofs.Ytbifikeecmaakaa
