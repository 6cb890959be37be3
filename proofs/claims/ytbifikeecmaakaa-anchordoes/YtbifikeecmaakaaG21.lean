/-
  3 texts in one. No statement of the seat is proved here.
-/
import Derived.Test.YtbifikeecmaakaaG20
import Derived.Deep.CutBlock
/-
  A step of layer 8's power, by what it does to the power itself. Conditions: fewer than 2^40 steps; what a step does returns, and leaves the power as it was.
-/
namespace Go.Proofs.Ytbifikeecmaakaa
open Go.RowKit

set_option maxRecDepth 100000 in
set_option maxHeartbeats 1000000 in
theorem oPStepP (w : World) {r : Nat} {S : PowS} (h : Pw w r S) {m : Nat} (hfit : S.fit m) (hm : m ≤ 1099511627776) (F : Nat) (caps : Array Value) (eF : ∀ args w, (callFunc F args).run Try.prog w = .ok (.enter F args) w) (R : World → World → Prop)
    (hdo : ∀ w1, Kp (fun k => k = r) w w1 → Pw w1 r S.next → Calls Try.prog F caps w1 fun e w2 => e = .returned (.tuple #[]) ∧ Pw w2 r S.next ∧ R w1 w2) :
    Calls Try.prog 74 #[.pointer (some ⟨r, 0, none⟩), .func (.func F) #[] caps] w fun e w' => e = .returned (.bool S.ok) ∧ Pw w' r S.next ∧ DoesP S r R w w' := by
  have h' := h
  obtain ⟨b, a, h1, h2, hb⟩ := h
  obtain ⟨n, fu, d, g⟩ := S
  obtain ⟨g1, g2, g3⟩ := hfit
  dsimp only at h2 g1 g2 g3 hb
  have hl := hb.lt
  have c0 := hb.cell 0
  have c4 := hb.cell 4
  have z4 := hb.free 4
  simp only [List.getElem?_cons_zero, List.getElem?_cons_succ] at c0 c4
  cases g with
  | true =>
    clear h1 h2 hb hdo
    go_enter Try.func74, Try.ntmps74
    go_wp2_with fail
    go_ret
    exact ⟨rfl, h', (show Kp (fun k => k = r) w w from Kp.refl _ _)⟩
  | false =>
    obtain ⟨e2, h3⟩ := h2 rfl
    clear h2
    clear h'
    have hb' := hb.setC 4 (.int .i64 ((n : Int) + 1))
    have k1 := kp_set w r 4 (.int .i64 ((n : Int) + 1))
    go_enter Try.func74, Try.ntmps74
    go_wp2_with fail
    generalize w.setCell ⟨r, 4, none⟩ (.int .i64 ((n : Int) + 1)) = W1 at *
    refine (oBurn W1 (d := d) h1 hb').mono ?_
    rintro e w1 ⟨rfl, hb1, k2⟩
    have k12 := k1.trans k2
    have hgo : (b && decide (a ≤ 0)) = decide (fu = 0) := by
      rw [e2]
      by_cases hf : 0 ≤ fu
      · rw [h3 hf, decide_eq_true hf, Bool.true_and]
        by_cases h0 : fu = 0
        · rw [decide_eq_true h0, decide_eq_true (by omega)]
        · rw [decide_eq_false h0, decide_eq_false (by omega)]
      · rw [decide_eq_false hf, decide_eq_false (show ¬ fu = 0 by omega)]
        rfl
    have hp : Pw w1 r (PowS.next ⟨n, fu, d, false⟩) := by
      unfold PowS.next
      rw [if_neg (by simp)]
      by_cases hf : fu < 0
      · rw [decide_eq_false (show ¬ 0 ≤ fu by omega)] at e2
        subst e2
        dsimp only
        rw [if_pos hf]
        exact ⟨false, a, h1, fun _ => ⟨(decide_eq_false (show ¬ 0 ≤ fu by omega)).symm, fun h => absurd h (by dsimp only; omega)⟩, hb1⟩
      · rw [decide_eq_true (show 0 ≤ fu by omega)] at e2
        subst e2
        obtain rfl := h3 (by omega)
        dsimp only
        rw [if_neg hf]
        rw [hgo] at hb1
        by_cases h0 : a = 0
        · subst h0
          exact ⟨true, 0, by omega, fun h => (by cases h), hb1⟩
        · rw [Bool.true_and, if_pos (by simp; omega)] at hb1
          exact ⟨true, a - 1, by omega, fun _ => ⟨(decide_eq_true (show 0 ≤ a - 1 by omega)).symm, fun _ => rfl⟩, hb1⟩
    have c3 := hb1.cell 3
    simp only [List.getElem?_cons_zero, List.getElem?_cons_succ] at c3
    have D := hdo w1 k12 hp
    clear hdo
    rw [hgo]
    have E : Hid (Calls Try.prog 78 #[.func (.func F) #[] caps] w1 fun e w2 => e = .returned (.tuple #[]) ∧ (Pw w2 r (PowS.next ⟨n, fu, d, false⟩) ∧ R w1 w2)) := oDo w1 F caps eF (fun w2 => Pw w2 r (PowS.next ⟨n, fu, d, false⟩) ∧ R w1 w2) D
    clear D hb hb' hb1 h1 e2 h3 g1 g2 g3 c0 c4 z4 k1 k2 hgo
    cases hz : decide (fu = 0) with
    | false =>
      go_wp2_with fail
      refine E.out.mono ?_
      rintro e w2 ⟨rfl, q1, q2⟩
      go_wp2_with fail
      go_ret
      unfold PowS.ok DoesP PowS.does
      dsimp only
      rw [hz]
      exact ⟨rfl, q1, w1, w2, k12, q2, Kp.refl _ _⟩
    | true =>
      cases d with
      | false =>
        go_wp2_with fail
        go_ret
        unfold PowS.ok DoesP PowS.does
        dsimp only
        rw [hz]
        exact ⟨rfl, hp, k12⟩
      | true =>
        go_wp2_with fail
        refine E.out.mono ?_
        rintro e w2 ⟨rfl, q1, q2⟩
        go_wp2_with fail
        go_ret
        unfold PowS.ok DoesP PowS.does
        dsimp only
        rw [hz]
        exact ⟨rfl, q1, w1, w2, k12, q2, Kp.refl _ _⟩

end Go.Proofs.Ytbifikeecmaakaa

/-
  Contracts of layer 10's program: Write. Conditions: the power and the cell are in memory; at most 5000 steps and writes.
-/
namespace Go.Proofs.Ytbifikeecmaakaa
open Go.RowKit

set_option maxRecDepth 100000 in
/-- What a write's step does: it puts the bytes that are held. -/
theorem oCWrite1 (w : World) {gA gB gC c : Nat} {k : Int} {p : Option Addr} {m q : Nat} (bA : Blk w gA [.pointer (some ⟨c, 0, none⟩)] 41) (bB : Blk w gB [.int .i64 k] 3) (bC : Blk w gC [.slice p m q] 22) {P : Ending → World → Prop} (hP : ∀ e w', P e w' → e = .returned (.tuple #[]))
    (CO : Calls Try.prog 76 #[.pointer (some ⟨c, 0, none⟩), .int .i64 k, .slice p m q] w P) :
    Calls Try.prog 75 #[.pointer (some ⟨gA, 0, none⟩), .pointer (some ⟨gB, 0, none⟩), .pointer (some ⟨gC, 0, none⟩)] w P := by
  have a0 : w.cell? ⟨gA, 0, none⟩ = some (.pointer (some ⟨c, 0, none⟩)) := bA.cell 0
  have b0 : w.cell? ⟨gB, 0, none⟩ = some (.int .i64 k) := bB.cell 0
  have c0 : w.cell? ⟨gC, 0, none⟩ = some (.slice p m q) := bC.cell 0
  have la := bA.lt
  have lb := bB.lt
  have lc := bC.lt
  clear bA bB bC
  go_enter Try.func75, Try.ntmps75
  go_wp2_with fail
  refine CO.mono ?_
  intro e w' hh
  obtain rfl := hP e w' hh
  go_wp2_with fail
  go_end0
  exact hh

theorem CelS.write_not (C : CelS) {at_ : Int} {b : List UInt8} (h : ¬ (0 ≤ at_ ∧ at_ < 4)) : C.write at_ b = (C, 2) := by
  unfold CelS.write
  rw [if_pos (by omega)]
theorem CelS.write_size (C : CelS) {at_ : Int} {b : List UInt8} (h : 0 ≤ at_ ∧ at_ < 4) (hb : 1024 < b.length) : C.write at_ b = (C, 17) := by
  unfold CelS.write
  rw [if_neg (by omega), if_pos hb]
theorem CelS.write_ok (C : CelS) {at_ : Int} {b : List UInt8} (h : 0 ≤ at_ ∧ at_ < 4) (hb : ¬ 1024 < b.length) : C.write at_ b = (C.wrote at_ b, if C.p.ok then 0 else 5) := by
  unfold CelS.write
  rw [if_neg (by omega), if_neg hb]
theorem CelS.wrote_down (C : CelS) {at_ : Int} {b : List UInt8} (h : C.p.down = true) : C.wrote at_ b = C ∧ C.p.ok = false := by
  unfold CelS.wrote PowS.does PowS.next PowS.ok
  rw [h]
  exact ⟨rfl, rfl⟩

/-- What a write's step leaves. -/
def PutR (U F : Nat → Prop) (c r : Nat) (C : CelS) (w w' : World) : Prop := Ck U F w' c r C ∧ Kp (fun j => j = c) w w'
/-- The cell is as a write leaves it, whatever the step did. -/
theorem Ck.wrote {U F : Nat → Prop} {w w' : World} {c r k : Nat} {C : CelS} {b : List UInt8} (h : Ck U F w c r C) (hp : Pw w' r C.p.next) (hd : DoesP C.p r (PutR U F c r ⟨C.p.next, C.l.set k (fitK b), C.writes + 1⟩) w w') : Cks U F w c r (C.wrote (k : Int) b) w' := by
  refine ⟨U, F, ?_, fun j hj => Or.inl hj, fun j hj => Or.inl hj, ?_⟩
  · unfold CelS.wrote
    unfold DoesP at hd
    rw [Int.toNat_natCast]
    split
    · rename_i hdo
      rw [if_pos hdo] at hd
      obtain ⟨w1, w2, k1, ⟨h2, k2⟩, k3⟩ := hd
      exact h2.power hp k3
    · rename_i hdo
      rw [if_neg hdo] at hd
      exact h.power hp hd
  · have hr : ∀ j, j < w.heap.size → j = r → F j := fun j _ e => by rw [e]; exact h.pw.2
    have hc : ∀ j, j = c → F j := fun j e => by rw [e]; exact (h.f c).2 (Or.inl rfl)
    unfold DoesP at hd
    split at hd
    · obtain ⟨w1, w2, k1, ⟨h2, k2⟩, k3⟩ := hd
      exact ((k1.mono fun j _ e => by rw [e]; exact h.pw.2).trans (k2.mono fun j _ e => hc j e)).trans (k3.mono fun j _ e => by rw [e]; exact h.pw.2)
    · exact hd.mono hr
theorem Cks.from {U F : Nat → Prop} {w w1 w' : World} {c r : Nat} {C : CelS} (h : Cks U F w1 c r C w') (k : Kp F w w1) : Cks U F w c r C w' := by
  obtain ⟨U', F', h1, h2, h3, h4⟩ := h
  exact ⟨U', F', h1, h2.of k.size, h3.of k.size, k.trans h4⟩
theorem Ck.stays {U F : Nat → Prop} {w : World} {c r : Nat} {C : CelS} (h : Ck U F w c r C) : Cks U F w c r C w := ⟨U, F, h, fun _ hj => Or.inl hj, fun _ hj => Or.inl hj, Kp.refl _ _⟩

set_option maxRecDepth 100000 in
set_option maxHeartbeats 1000000 in
theorem oCWrite (w : World) {U F : Nat → Prop} {c r : Nat} {C : CelS} (h : Ck U F w c r C) {mm : Nat} (hf : C.fit mm) (hmm : mm ≤ 5000) (at_ : Int) (_hat : i64 at_) {p : Option Addr} {m q : Nat} {b : List UInt8} (hb : BA (fun j => ¬ F j) w p m q b) : Calls Try.prog 71 #[.pointer (some ⟨c, 0, none⟩), .int .i64 at_, .slice p m q] w fun e w' => e = .returned (.int .i64 (C.write at_ b).2) ∧ Cks U F w c r (C.write at_ b).1 w' := by
  obtain ⟨W, hW⟩ : ∃ W, W = ((w.alloc (.cells #[.pointer (some ⟨c, 0, none⟩)] 41)).alloc (.cells #[.int .i64 at_] 3)).alloc (.cells #[.slice p m q] 22) := ⟨_, rfl⟩
  have bA : Blk W w.heap.size [.pointer (some ⟨c, 0, none⟩)] 41 := by rw [hW]; exact ((Blk.new w _ _).old _).old _
  have bB : Blk W (w.heap.size + 1) [.int .i64 at_] 3 := by rw [hW]; exact (Blk.newAt (w.alloc _) _ _ _ (by simp) _ rfl).old _
  have bC : Blk W (w.heap.size + 1 + 1) [.slice p m q] 22 := by rw [hW]; exact Blk.newAt ((w.alloc _).alloc _) _ _ _ (by simp) _ rfl
  have hbW : Below w.heap.size w W := by rw [hW]; exact below3 w _ _ _
  have hl := h.b.lt
  have hr := h.po.lt
  have h' : Ck U F W c r C := h.keep (G := fun _ => False) (Kp.of_below hbW) fun _ _ h => h
  have hb' : BA (fun j => ¬ F j) W p m q b := hb.grow hbW
  have hlen : b.length = m := hb.1.len
  have PRE : Hid (∀ C' u, Cks U F W c r C' u → Cks U F w c r C' u) := fun C' u hc => hc.from (Kp.of_below hbW)
  have CH := oCHas W at_
  have CD := oCDown W h'
  have a0 : W.cell? ⟨w.heap.size, 0, none⟩ = some (.pointer (some ⟨c, 0, none⟩)) := bA.cell 0
  have b0 : W.cell? ⟨w.heap.size + 1, 0, none⟩ = some (.int .i64 at_) := bB.cell 0
  have c0 : W.cell? ⟨w.heap.size + 1 + 1, 0, none⟩ = some (.slice p m q) := bC.cell 0
  have la := bA.lt
  have lb := bB.lt
  have lc := bC.lt
  have lC := h'.b.lt
  have r0 : W.cell? ⟨c, 0, none⟩ = some (.pointer (some ⟨r, 0, none⟩)) := h'.b.cell 0
  clear h hb hbW
  by_cases hk : 0 ≤ at_ ∧ at_ < 4
  · rw [decide_eq_true hk] at CH
    by_cases hz : 1024 < m
    · rw [C.write_size hk (by omega)]
      have HF : Hid (Cks U F w c r C W) := PRE.out _ _ h'.stays
      clear h' hb' hf PRE bA bB bC hk CD r0
      go_enter Try.func71, Try.ntmps71
      go_wp2_with fail
      rw [← hW]
      clear hW
      refine CH.mono ?_
      rintro e w1 ⟨rfl, rfl⟩
      go_wp2_with fail
      go_ret
      exact ⟨rfl, HF.out⟩
    · rw [C.write_ok hk (by omega)]
      obtain ⟨k, rfl⟩ : ∃ k : Nat, at_ = (k : Int) := ⟨at_.toNat, by omega⟩
      have hk4 : k < 4 := by omega
      cases hd : C.p.down with
      | true =>
        rw [(C.wrote_down (at_ := (k : Int)) (b := b) hd).1, (C.wrote_down (at_ := (k : Int)) (b := b) hd).2]
        rw [hd] at CD
        have HF : Hid (Cks U F w c r C W) := PRE.out _ _ h'.stays
        clear h' hb' hf PRE bA bB bC hk hd
        go_enter Try.func71, Try.ntmps71
        go_wp2_with fail
        rw [← hW]
        clear hW
        refine CH.mono ?_
        rintro e w1 ⟨rfl, rfl⟩
        go_wp2_with fail
        refine CD.mono ?_
        rintro e w1 ⟨rfl, rfl⟩
        go_wp2_with fail
        go_ret
        exact ⟨rfl, HF.out⟩
      | false =>
        rw [hd] at CD
        have hL := flat4 hf
        have nrA : ¬ w.heap.size = r := by omega
        have nrB : ¬ w.heap.size + 1 = r := by omega
        have nrC : ¬ w.heap.size + 1 + 1 = r := by omega
        have CS := oPStepP W h'.po hf.p (by omega) 75 #[.pointer (some ⟨w.heap.size, 0, none⟩), .pointer (some ⟨w.heap.size + 1, 0, none⟩), .pointer (some ⟨w.heap.size + 1 + 1, 0, none⟩)] Try.call75 (PutR U F c r ⟨C.p.next, C.l.set k (fitK b), C.writes + 1⟩) (fun w6 k6 pw6 => by
          have h6 := h'.power pw6 k6
          have hb6 : Bs w6 p m q b := (hb'.keep k6.size fun j hj ha => k6.block j hj fun e => ha (by rw [e]; exact h'.pw.2)).1
          have CO := oCPut w6 h6.b h6.len (by have := hf.writes; show C.writes ≤ 5000; omega) hk4 hb6 (by omega)
          refine (oCWrite1 w6 (k6.blk bA nrA) (k6.blk bB nrB) (k6.blk bC nrC) (fun e w' hh => hh.1) CO).mono ?_
          rintro e w7 ⟨he, hb7, hk7⟩
          have hp7 : Pw w7 r C.p.next := pw6.same (hk7.block r pw6.lt fun e => h'.ne e.symm)
          refine ⟨he, hp7, ⟨h'.u, h'.f, h'.ne, hp7, ?_, ?_⟩, hk7⟩
          · show Blk w7 c (celC r (C.l.set k (fitK b)).flatten (C.writes + 1)) _
            rw [← flat_put hf.l hf.s hk4]
            exact hb7
          · show (C.l.set k (fitK b)).flatten.length = 4096
            rw [← flat_put hf.l hf.s hk4]
            have := fitK_length b
            simp only [List.length_append, List.length_take, List.length_drop]
            omega)
        have FIN : Hid (∀ u, Pw u r C.p.next → DoesP C.p r (PutR U F c r ⟨C.p.next, C.l.set k (fitK b), C.writes + 1⟩) W u → Cks U F w c r (C.wrote (k : Int) b) u) := fun u hp hdp => PRE.out _ _ (h'.wrote hp hdp)
        generalize C.wrote (k : Int) b = C' at *
        generalize C.p.ok = ok at *
        clear h' hb' hf PRE bA bB bC hk hd hL nrA nrB nrC
        go_enter Try.func71, Try.ntmps71
        go_wp2_with fail
        rw [← hW]
        clear hW
        refine CH.mono ?_
        rintro e w1 ⟨rfl, rfl⟩
        go_wp2_with fail
        refine CD.mono ?_
        rintro e w1 ⟨rfl, rfl⟩
        go_wp2_with fail
        refine CS.mono ?_
        rintro e w8 ⟨rfl, hp8, dp8⟩
        have HFIN := FIN.out w8 hp8 dp8
        clear CS FIN hp8 dp8 CH CD
        have HF : Hid _ := HFIN
        clear HFIN
        cases ok with
        | true =>
          go_wp2_with fail
          go_ret
          exact ⟨rfl, HF.out⟩
        | false =>
          go_wp2_with fail
          go_ret
          exact ⟨rfl, HF.out⟩
  · rw [decide_eq_false hk] at CH
    rw [C.write_not hk]
    have HF : Hid (Cks U F w c r C W) := PRE.out _ _ h'.stays
    clear h' hb' hf PRE bA bB bC hk CD r0
    go_enter Try.func71, Try.ntmps71
    go_wp2_with fail
    rw [← hW]
    clear hW
    refine CH.mono ?_
    rintro e w1 ⟨rfl, rfl⟩
    go_wp2_with fail
    go_ret
    exact ⟨rfl, HF.out⟩

end Go.Proofs.Ytbifikeecmaakaa

/-
  The contracts of layer 10's reference's New and Read. Conditions: none.
-/
namespace Go.Proofs.Ytbifikeecmaakaa
open Go.RowKit

theorem size35 : (Try.prog.info? 51).map (·.size) = some 6 := by kernel_rfl
theorem size32 : (Try.prog.info? 48).map (·.size) = some 4 := by kernel_rfl
theorem neC5 : 51 ≠ 5 := by decide

set_option maxRecDepth 100000 in
set_option maxHeartbeats 4000000 in
theorem rCNew (w : World) {A : Nat → Prop} (hA : ∀ j, w.heap.size ≤ j → A j) (P : PowS) :
    Calls Try.prog 23 #[pv P] w fun e w' => ∃ q, e = .returned (cv (CelS.new P) q) ∧ RC A w' (CelS.new P) q ∧ Below w.heap.size w w' := by
  obtain ⟨ps, pf, pd, pg⟩ := P
  unfold pv
  dsimp only
  obtain ⟨B, hB⟩ : ∃ B : Nat → Prop, B = fun j => w.heap.size + 3 ≤ j := ⟨_, rfl⟩
  have HB : Hid (∀ j, B j ↔ w.heap.size + 3 ≤ j) := fun j => by rw [hB]
  clear hB
  have b0 : Blk (((w.alloc (.cells #[.int .i64 (ps : Int), .int .i64 pf, .bool pd, .bool pg] 48)).alloc (.cells #[.int .i64 0, .int .i64 0, .bool false, .bool false, .slice none 0 0, .int .i64 0] 51)).alloc (.cells #[.int .i64 (ps : Int), .int .i64 pf, .bool pd, .bool pg, .slice none 0 0, .int .i64 0] 51)) (w.heap.size + 1 + 1) [.int .i64 (ps : Int), .int .i64 pf, .bool pd, .bool pg, .slice none 0 0, .int .i64 0] 51 := Blk.newAt ((w.alloc _).alloc _) _ _ (w.heap.size + 1 + 1) (by simp) _ rfl
  have z0 : Blk (((w.alloc (.cells #[.int .i64 (ps : Int), .int .i64 pf, .bool pd, .bool pg] 48)).alloc (.cells #[.int .i64 0, .int .i64 0, .bool false, .bool false, .slice none 0 0, .int .i64 0] 51)).alloc (.cells #[.int .i64 (ps : Int), .int .i64 pf, .bool pd, .bool pg, .slice none 0 0, .int .i64 0] 51)) (w.heap.size + 1) [.int .i64 0, .int .i64 0, .bool false, .bool false, .slice none 0 0, .int .i64 0] 51 := (Blk.newAt (w.alloc _) _ _ (w.heap.size + 1) (by simp) _ rfl).old _
  have k0 : Below w.heap.size w (((w.alloc (.cells #[.int .i64 (ps : Int), .int .i64 pf, .bool pd, .bool pg] 48)).alloc (.cells #[.int .i64 0, .int .i64 0, .bool false, .bool false, .slice none 0 0, .int .i64 0] 51)).alloc (.cells #[.int .i64 (ps : Int), .int .i64 pf, .bool pd, .bool pg, .slice none 0 0, .int .i64 0] 51)) := below3 _ _ _ _
  have s0 : w.heap.size + 3 ≤ ((((w.alloc (.cells #[.int .i64 (ps : Int), .int .i64 pf, .bool pd, .bool pg] 48)).alloc (.cells #[.int .i64 0, .int .i64 0, .bool false, .bool false, .slice none 0 0, .int .i64 0] 51)).alloc (.cells #[.int .i64 (ps : Int), .int .i64 pf, .bool pd, .bool pg, .slice none 0 0, .int .i64 0] 51))).heap.size := by simp
  go_enter Try.func23, Try.ntmps23
  go_wp2_with fail
  go_loopw [4] (fun i wr => ∃ (k : Nat) (a : Option Addr) (n c : Nat), k ≤ 4 ∧ i = .int .i64 (k : Int) ∧ n = k ∧ Hid (OwS (elB B) 1 22 wr (w.heap.size + 3) (.slice a n c) (List.replicate k z1k)) ∧ Blk wr (w.heap.size + 1 + 1) [.int .i64 (ps : Int), .int .i64 pf, .bool pd, .bool pg, .slice a n c, .int .i64 0] 51 ∧ Blk wr (w.heap.size + 1) [.int .i64 0, .int .i64 0, .bool false, .bool false, .slice none 0 0, .int .i64 0] 51 ∧ Below w.heap.size w wr ∧ w.heap.size + 3 ≤ wr.heap.size) (fun i _ => 4 - (intOf i).toNat)
  case atStart => exact ⟨0, none, 0, 0, by omega, rfl, rfl, OwS.nil _ _ _ _ _, b0, z0, k0, s0⟩
  case round =>
    clear b0 z0 k0 s0
    obtain ⟨k, a, n, c, hk, rfl, rfl, HO, bX, bZ, kb, hs⟩ := hrel
    by_cases hlt : n < 4
    · have i0 : (n : Int) < 4 := by omega
      have F4 : ∀ u, Below (w.heap.size + 3) wr u → u.cell? ⟨w.heap.size + 1 + 1, 4, none⟩ = some (.slice a n c) := fun u h => (bX.below h (by omega)).cell 4
      have hlX := bX.lt
      go_wp2_with fail
      refine regionE 6 (S := Below (w.heap.size + 3) wr) (by kernel_rfl) (Below.refl _ wr).drew ?_
      refine takeT 0 (some 11) (.pointer (some ⟨w.heap.size + 1 + 1, 4, none⟩)) rfl rfl (by kernel_rfl) (fun _ _ _ h => h) (ans_plain (by rfl) (fun w _ => by unfold execOp; go_simp)) ?_
      simp only [Act.put, List.setIfInBounds_toArray, List.set_cons_zero, List.set_cons_succ]
      refine takeT 1 (some 12) (.slice a n c) rfl rfl (by kernel_rfl) (fun _ _ _ h => h) (ans_plain (by rfl) (fun u h => by have hc := F4 u h; unfold execOp; go_simp)) ?_
      simp only [Act.put, List.setIfInBounds_toArray, List.set_cons_zero, List.set_cons_succ]
      refine oneE 2 (by kernel_rfl) (by kernel_rfl) fun u1 hg1 hs1 => ?_
      have hw1 : Grows wr u1 := Grows.trans (Below.refl _ wr).drew hg1
      refine opMk8 (some 13) rfl rfl rfl _ _ rfl 1024 rfl rfl (by omega) fun u2 hO hg2 => ?_
      have hw2 : Grows wr u2 := Grows.trans hw1 hg2
      refine ⟨Below.mono hw2 hs, ?_⟩
      simp only [Act.put, List.setIfInBounds_toArray, List.set_cons_zero, List.set_cons_succ]
      refine oneE 3 (by kernel_rfl) (by kernel_rfl) fun u3 hg3 hs3 => ?_
      have hw3 : Grows wr u3 := Grows.trans hw2 hg3
      have b5 : B5 B u3 (some ⟨u1.heap.size, 0, none⟩) 1024 1024 z1k := (hO.b5 (A := B) (fun j hj _ => (HB.out j).2 (by have := Below.size hw1; omega))).below hg3
      refine opBS1 (some 14) rfl rfl rfl _ rfl (some ⟨u1.heap.size, 0, none⟩) 1024 1024 rfl ?_
      have hw4 : Grows wr (u3.alloc (.cells #[.slice (some ⟨u1.heap.size, 0, none⟩) 1024 1024] 22)) := Grows.trans hw3 (below_alloc _ _)
      have bl : Blk (u3.alloc (.cells #[.slice (some ⟨u1.heap.size, 0, none⟩) 1024 1024] 22)) u3.heap.size [.slice (some ⟨u1.heap.size, 0, none⟩) 1024 1024] 22 := Blk.newAt u3 _ _ u3.heap.size rfl _ rfl
      have b54 := b5.below (below_alloc u3 (.cells #[.slice (some ⟨u1.heap.size, 0, none⟩) 1024 1024] 22))
      refine ⟨Below.mono hw4 hs, ?_⟩
      generalize u3.alloc (.cells #[.slice (some ⟨u1.heap.size, 0, none⟩) 1024 1024] 22) = u4 at *
      simp only [Act.put, List.setIfInBounds_toArray, List.set_cons_zero, List.set_cons_succ]
      refine oneE 4 (by kernel_rfl) (by kernel_rfl) fun u5 hg5 hs5 => ?_
      have hw5 : Grows wr u5 := Grows.trans hw4 hg5
      have bl5 := bl.below hg5 bl.lt
      have b55 := b54.below hg5
      have ow5 := OwB.below HO.out hw5
      refine opApp1 (elB B) 1 24 49 22 _ Try.underlying49 infoBy rfl (by decide) (by decide) u5 rfl rfl (some 15) rfl (.tmp 12) (.tmp 14) rfl (w.heap.size + 3) (.slice a n c) (List.replicate n z1k) rfl ow5 u3.heap.size 1 z1k [.slice (some ⟨u1.heap.size, 0, none⟩) 1024 1024] rfl bl5.whole ⟨rfl, by intro v hv; simp at hv; subst hv; rfl, _, _, _, rfl, b55⟩ (by simp; omega) (Nat.le_trans hs (Below.size hw5)) (fun w' x vs hg hx => elB.grown hg (ow5.not5 neB5) x vs hx) fun v' u6 ho6 hg6 => ?_
      obtain ⟨a6, n6, c6, rfl, hn6⟩ := ho6.shape
      have hb6 : Below (w.heap.size + 3) u5 u6 := (Below.refl _ _).grown hg6 (Nat.le_trans hs (Below.size hw5)) (fun j hj => (ow5.lt j hj).1)
      have hwb6 : Below (w.heap.size + 3) wr u6 := (Below.mono hw5 hs).trans hb6
      refine ⟨hwb6, ?_⟩
      simp only [Act.put, List.setIfInBounds_toArray, List.set_cons_zero, List.set_cons_succ]
      refine takeT 5 (some 16) (.pointer (some ⟨w.heap.size + 1 + 1, 4, none⟩)) rfl rfl (by kernel_rfl) (fun _ _ _ h => h) (ans_plain (by rfl) (fun w _ => by unfold execOp; go_simp)) ?_
      simp only [Act.put, List.setIfInBounds_toArray, List.set_cons_zero, List.set_cons_succ]
      refine lastE (by kernel_rfl) (by kernel_rfl) (by kernel_rfl) (by kernel_rfl) fun u7 hg7 hs7 => ?_
      have bX7 := bX.below hs7 (by omega)
      have bZ7 := bZ.below hs7 (by omega)
      have ow7 := OwB.below ho6 hg7
      refine opStS rfl rfl rfl _ _ rfl (w.heap.size + 1 + 1) 4 rfl a6 n6 c6 rfl _ _ bX7 (by simp) (fun u8 hg8 => ?_)
      have hset := but_set u7 (w.heap.size + 1 + 1) 4 (.slice a6 n6 c6)
      have bX8 := (bX7.setC 4 (.slice a6 n6 c6)).below hg8 (bX7.setC 4 (.slice a6 n6 c6)).lt
      have bZ7s : Blk (u7.setCell ⟨w.heap.size + 1 + 1, 4, none⟩ (.slice a6 n6 c6)) (w.heap.size + 1) [.int .i64 0, .int .i64 0, .bool false, .bool false, .slice none 0 0, .int .i64 0] 51 := bZ7.setO (by simp) _
      have bZ8 := bZ7s.below hg8 bZ7s.lt
      have ow8 := OwB.below (OwB.grown ow7 hset (by omega) (bX7.not5' neC5)) hg8
      have e8 : List.replicate n z1k ++ [z1k] = List.replicate (n + 1) z1k := (List.replicate_succ' ..).symm
      rw [e8] at ow8 hn6
      rw [List.length_replicate] at hn6
      have k7 : Below w.heap.size w u7 := kb.trans (Below.mono hs7 (by omega))
      have k7s : Below w.heap.size w (u7.setCell ⟨w.heap.size + 1 + 1, 4, none⟩ (.slice a6 n6 c6)) := k7.setCell (by show w.heap.size ≤ w.heap.size + 1 + 1; omega) _
      have k8 := k7s.trans (Below.mono hg8 k7s.size)
      have s8 : w.heap.size + 3 ≤ u8.heap.size := Nat.le_trans hs (Nat.le_trans (Below.size hs7) (Nat.le_trans (by simp [World.setCell]) (Below.size hg8)))
      have HO8 : Hid (OwS (elB B) 1 22 u8 (w.heap.size + 3) (.slice a6 n6 c6) (List.replicate (n + 1) z1k)) := ow8
      clear bX bZ HO kb F4 hs1 hs3 hs5 hs7 hg1 hg2 hg3 hg5 hg7 hg8 hg6 hw1 hw2 hw3 hw4 hw5 hwb6 hb6 ow5 ow7 ow8 ho6 hO b5 b54 b55 bl bl5 bX7 bZ7 bZ7s k7 k7s hset
      go_wp2_with fail
      go_roundw
      case rel => exact ⟨n + 1, a6, n6, c6, by omega, by go_num, hn6.symm, HO8, bX8, bZ8, k8, s8⟩
      case measure => simp [intOf]; omega
    · have i0 : ¬ (n : Int) < 4 := by omega
      obtain rfl : n = 4 := by omega
      have kcc : cc (CelS.new ⟨ps, pf, pd, pg⟩) ⟨a, 4, c⟩ = [.int .i64 (ps : Int), .int .i64 pf, .bool pd, .bool pg, .slice a ((4 : Nat)) c, .int .i64 0] := rfl
      rw [← kcc] at bX
      clear kcc
      go_wp2_with (first | ((with_reducible refine at_ld 51 ?_); (refine ld 51 (.tmp 3) 6 size35 _ Try.underlying51 rfl (w.heap.size + 1 + 1) 0 (cc (CelS.new ⟨ps, pf, pd, pg⟩) ⟨a, 4, c⟩) rfl bX.whole rfl ?_)) | ((with_reducible refine at_st 51 ?_); (refine st' 51 (.tmp 2) (.tmp 17) 6 size35 (w.heap.size + 1) 0 (cc (CelS.new ⟨ps, pf, pd, pg⟩) ⟨a, 4, c⟩) rfl (cc_one _ _) (bZ.there 0 6 (by simp)) rfl rfl ?_); intro w8 hw8))
      have b8 : Blk w8 (w.heap.size + 1) (cc (CelS.new ⟨ps, pf, pd, pg⟩) ⟨a, 4, c⟩) 51 := by rw [hw8]; exact bZ.setsW _ rfl
      have k8 : Below w.heap.size w w8 := by rw [hw8]; exact below_sets (by omega) _ kb 0
      have g8 : wr.grownBy w8 (some (w.heap.size + 1)) := by rw [hw8]; exact but_cells' _ _ _ _
      have o8 := OwB.grown HO.out g8 (by omega) (bZ.not5' neC5)
      have hrd : RC A w8 (CelS.new ⟨ps, pf, pd, pg⟩) ⟨a, 4, c⟩ := RC.mono (A := B) (o8.sl3 (fun j hj _ => (HB.out j).2 hj)) fun j _ hj => hA j (by have := (HB.out j).1 hj; omega)
      rw [← hw8]
      exact bodyPost_ret (v := cv (CelS.new ⟨ps, pf, pd, pg⟩) ⟨a, 4, c⟩) (results_cell_row Try.results23 _ _ (w.heap.size + 1) 51 (cc (CelS.new ⟨ps, pf, pd, pg⟩) ⟨a, 4, c⟩).toArray (0, 0) _ rfl b8 Try.underlying51 rfl size35) rfl ⟨_, rfl, hrd, k8⟩

end Go.Proofs.Ytbifikeecmaakaa
