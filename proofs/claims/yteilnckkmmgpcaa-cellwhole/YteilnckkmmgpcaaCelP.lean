/-
  Contracts of layer 10's program: Write. Conditions: the power and the cell are in memory; at most 5000 steps and writes.
-/
import Derived.Test.YteilnckkmmgpcaaCelPB
import Derived.Test.YteilnckkmmgpcaaPwS
namespace Go.Proofs.Yteilnckkmmgpcaa
open Go.RowKit

set_option maxRecDepth 100000 in
/-- What a write's step does: it puts the bytes that are held. -/
theorem oCWrite1 (w : World) {gA gB gC c : Nat} {k : Int} {p : Option Addr} {m q : Nat} (bA : Blk w gA [.pointer (some ⟨c, 0, none⟩)] 27) (bB : Blk w gB [.int .i64 k] 3) (bC : Blk w gC [.slice p m q] 38) {P : Ending → World → Prop} (hP : ∀ e w', P e w' → e = .returned (.tuple #[]))
    (CO : Calls Try.prog 28 #[.pointer (some ⟨c, 0, none⟩), .int .i64 k, .slice p m q] w P) :
    Calls Try.prog 27 #[.pointer (some ⟨gA, 0, none⟩), .pointer (some ⟨gB, 0, none⟩), .pointer (some ⟨gC, 0, none⟩)] w P := by
  have a0 : w.cell? ⟨gA, 0, none⟩ = some (.pointer (some ⟨c, 0, none⟩)) := bA.cell 0
  have b0 : w.cell? ⟨gB, 0, none⟩ = some (.int .i64 k) := bB.cell 0
  have c0 : w.cell? ⟨gC, 0, none⟩ = some (.slice p m q) := bC.cell 0
  have la := bA.lt
  have lb := bB.lt
  have lc := bC.lt
  clear bA bB bC
  go_enter Try.func27, Try.ntmps27
  go_wp2_with fail
  refine CO.mono ?_
  intro e w' hh
  obtain rfl := hP e w' hh
  go_wp2_with fail
  go_end0
  exact hh

theorem CelS.write_not (C : CelS) {at_ : Int} {b : List UInt8} (h : ¬ (0 ≤ at_ ∧ at_ < 4)) : C.write at_ b = (C, 2) := by
  unfold CelS.write
  rw [if_pos (by omega)]
theorem CelS.write_size (C : CelS) {at_ : Int} {b : List UInt8} (h : 0 ≤ at_ ∧ at_ < 4) (hb : 1024 < b.length) : C.write at_ b = (C, 17) := by
  unfold CelS.write
  rw [if_neg (by omega), if_pos hb]
theorem CelS.write_ok (C : CelS) {at_ : Int} {b : List UInt8} (h : 0 ≤ at_ ∧ at_ < 4) (hb : ¬ 1024 < b.length) : C.write at_ b = (C.wrote at_ b, if C.p.ok then 0 else 5) := by
  unfold CelS.write
  rw [if_neg (by omega), if_neg hb]
theorem CelS.wrote_down (C : CelS) {at_ : Int} {b : List UInt8} (h : C.p.down = true) : C.wrote at_ b = C ∧ C.p.ok = false := by
  unfold CelS.wrote PowS.does PowS.next PowS.ok
  rw [h]
  exact ⟨rfl, rfl⟩

/-- What a write's step leaves. -/
def PutR (U F : Nat → Prop) (c r : Nat) (C : CelS) (w w' : World) : Prop := Ck U F w' c r C ∧ Kp (fun j => j = c) w w'
/-- The cell is as a write leaves it, whatever the step did. -/
theorem Ck.wrote {U F : Nat → Prop} {w w' : World} {c r k : Nat} {C : CelS} {b : List UInt8} (h : Ck U F w c r C) (hp : Pw w' r C.p.next) (hd : DoesP C.p r (PutR U F c r ⟨C.p.next, C.l.set k (fitK b), C.writes + 1⟩) w w') : Cks U F w c r (C.wrote (k : Int) b) w' := by
  refine ⟨U, F, ?_, fun j hj => Or.inl hj, fun j hj => Or.inl hj, ?_⟩
  · unfold CelS.wrote
    unfold DoesP at hd
    rw [Int.toNat_natCast]
    split
    · rename_i hdo
      rw [if_pos hdo] at hd
      obtain ⟨w1, w2, k1, ⟨h2, k2⟩, k3⟩ := hd
      exact h2.power hp k3
    · rename_i hdo
      rw [if_neg hdo] at hd
      exact h.power hp hd
  · have hr : ∀ j, j < w.heap.size → j = r → F j := fun j _ e => by rw [e]; exact h.pw.2
    have hc : ∀ j, j = c → F j := fun j e => by rw [e]; exact (h.f c).2 (Or.inl rfl)
    unfold DoesP at hd
    split at hd
    · obtain ⟨w1, w2, k1, ⟨h2, k2⟩, k3⟩ := hd
      exact ((k1.mono fun j _ e => by rw [e]; exact h.pw.2).trans (k2.mono fun j _ e => hc j e)).trans (k3.mono fun j _ e => by rw [e]; exact h.pw.2)
    · exact hd.mono hr
theorem Cks.from {U F : Nat → Prop} {w w1 w' : World} {c r : Nat} {C : CelS} (h : Cks U F w1 c r C w') (k : Kp F w w1) : Cks U F w c r C w' := by
  obtain ⟨U', F', h1, h2, h3, h4⟩ := h
  exact ⟨U', F', h1, h2.of k.size, h3.of k.size, k.trans h4⟩
theorem Ck.stays {U F : Nat → Prop} {w : World} {c r : Nat} {C : CelS} (h : Ck U F w c r C) : Cks U F w c r C w := ⟨U, F, h, fun _ hj => Or.inl hj, fun _ hj => Or.inl hj, Kp.refl _ _⟩

set_option maxRecDepth 100000 in
set_option maxHeartbeats 1000000 in
theorem oCWrite (w : World) {U F : Nat → Prop} {c r : Nat} {C : CelS} (h : Ck U F w c r C) {mm : Nat} (hf : C.fit mm) (hmm : mm ≤ 5000) (at_ : Int) (_hat : i64 at_) {p : Option Addr} {m q : Nat} {b : List UInt8} (hb : BA (fun j => ¬ F j) w p m q b) : Calls Try.prog 15 #[.pointer (some ⟨c, 0, none⟩), .int .i64 at_, .slice p m q] w fun e w' => e = .returned (.int .i64 (C.write at_ b).2) ∧ Cks U F w c r (C.write at_ b).1 w' := by
  obtain ⟨W, hW⟩ : ∃ W, W = ((w.alloc (.cells #[.pointer (some ⟨c, 0, none⟩)] 27)).alloc (.cells #[.int .i64 at_] 3)).alloc (.cells #[.slice p m q] 38) := ⟨_, rfl⟩
  have bA : Blk W w.heap.size [.pointer (some ⟨c, 0, none⟩)] 27 := by rw [hW]; exact ((Blk.new w _ _).old _).old _
  have bB : Blk W (w.heap.size + 1) [.int .i64 at_] 3 := by rw [hW]; exact (Blk.newAt (w.alloc _) _ _ _ (by simp) _ rfl).old _
  have bC : Blk W (w.heap.size + 1 + 1) [.slice p m q] 38 := by rw [hW]; exact Blk.newAt ((w.alloc _).alloc _) _ _ _ (by simp) _ rfl
  have hbW : Below w.heap.size w W := by rw [hW]; exact below3 w _ _ _
  have hl := h.b.lt
  have hr := h.po.lt
  have h' : Ck U F W c r C := h.keep (G := fun _ => False) (Kp.of_below hbW) fun _ _ h => h
  have hb' : BA (fun j => ¬ F j) W p m q b := hb.grow hbW
  have hlen : b.length = m := hb.1.len
  have PRE : Hid (∀ C' u, Cks U F W c r C' u → Cks U F w c r C' u) := fun C' u hc => hc.from (Kp.of_below hbW)
  have CH := oCHas W at_
  have CD := oCDown W h'
  have a0 : W.cell? ⟨w.heap.size, 0, none⟩ = some (.pointer (some ⟨c, 0, none⟩)) := bA.cell 0
  have b0 : W.cell? ⟨w.heap.size + 1, 0, none⟩ = some (.int .i64 at_) := bB.cell 0
  have c0 : W.cell? ⟨w.heap.size + 1 + 1, 0, none⟩ = some (.slice p m q) := bC.cell 0
  have la := bA.lt
  have lb := bB.lt
  have lc := bC.lt
  have lC := h'.b.lt
  have r0 : W.cell? ⟨c, 0, none⟩ = some (.pointer (some ⟨r, 0, none⟩)) := h'.b.cell 0
  clear h hb hbW
  by_cases hk : 0 ≤ at_ ∧ at_ < 4
  · rw [decide_eq_true hk] at CH
    by_cases hz : 1024 < m
    · rw [C.write_size hk (by omega)]
      have HF : Hid (Cks U F w c r C W) := PRE.out _ _ h'.stays
      clear h' hb' hf PRE bA bB bC hk CD r0
      go_enter Try.func15, Try.ntmps15
      go_wp2_with fail
      rw [← hW]
      clear hW
      refine CH.mono ?_
      rintro e w1 ⟨rfl, rfl⟩
      go_wp2_with fail
      go_ret
      exact ⟨rfl, HF.out⟩
    · rw [C.write_ok hk (by omega)]
      obtain ⟨k, rfl⟩ : ∃ k : Nat, at_ = (k : Int) := ⟨at_.toNat, by omega⟩
      have hk4 : k < 4 := by omega
      cases hd : C.p.down with
      | true =>
        rw [(C.wrote_down (at_ := (k : Int)) (b := b) hd).1, (C.wrote_down (at_ := (k : Int)) (b := b) hd).2]
        rw [hd] at CD
        have HF : Hid (Cks U F w c r C W) := PRE.out _ _ h'.stays
        clear h' hb' hf PRE bA bB bC hk hd
        go_enter Try.func15, Try.ntmps15
        go_wp2_with fail
        rw [← hW]
        clear hW
        refine CH.mono ?_
        rintro e w1 ⟨rfl, rfl⟩
        go_wp2_with fail
        refine CD.mono ?_
        rintro e w1 ⟨rfl, rfl⟩
        go_wp2_with fail
        go_ret
        exact ⟨rfl, HF.out⟩
      | false =>
        rw [hd] at CD
        have hL := flat4 hf
        have nrA : ¬ w.heap.size = r := by omega
        have nrB : ¬ w.heap.size + 1 = r := by omega
        have nrC : ¬ w.heap.size + 1 + 1 = r := by omega
        have CS := oPStepP W h'.po hf.p (by omega) 27 #[.pointer (some ⟨w.heap.size, 0, none⟩), .pointer (some ⟨w.heap.size + 1, 0, none⟩), .pointer (some ⟨w.heap.size + 1 + 1, 0, none⟩)] Try.call27 (PutR U F c r ⟨C.p.next, C.l.set k (fitK b), C.writes + 1⟩) (fun w6 k6 pw6 => by
          have h6 := h'.power pw6 k6
          have hb6 : Bs w6 p m q b := (hb'.keep k6.size fun j hj ha => k6.block j hj fun e => ha (by rw [e]; exact h'.pw.2)).1
          have CO := oCPut w6 h6.b h6.len (by have := hf.writes; show C.writes ≤ 5000; omega) hk4 hb6 (by omega)
          refine (oCWrite1 w6 (k6.blk bA nrA) (k6.blk bB nrB) (k6.blk bC nrC) (fun e w' hh => hh.1) CO).mono ?_
          rintro e w7 ⟨he, hb7, hk7⟩
          have hp7 : Pw w7 r C.p.next := pw6.same (hk7.block r pw6.lt fun e => h'.ne e.symm)
          refine ⟨he, hp7, ⟨h'.u, h'.f, h'.ne, hp7, ?_, ?_⟩, hk7⟩
          · show Blk w7 c (celC r (C.l.set k (fitK b)).flatten (C.writes + 1)) _
            rw [← flat_put hf.l hf.s hk4]
            exact hb7
          · show (C.l.set k (fitK b)).flatten.length = 4096
            rw [← flat_put hf.l hf.s hk4]
            have := fitK_length b
            simp only [List.length_append, List.length_take, List.length_drop]
            omega)
        have FIN : Hid (∀ u, Pw u r C.p.next → DoesP C.p r (PutR U F c r ⟨C.p.next, C.l.set k (fitK b), C.writes + 1⟩) W u → Cks U F w c r (C.wrote (k : Int) b) u) := fun u hp hdp => PRE.out _ _ (h'.wrote hp hdp)
        generalize C.wrote (k : Int) b = C' at *
        generalize C.p.ok = ok at *
        clear h' hb' hf PRE bA bB bC hk hd hL nrA nrB nrC
        go_enter Try.func15, Try.ntmps15
        go_wp2_with fail
        rw [← hW]
        clear hW
        refine CH.mono ?_
        rintro e w1 ⟨rfl, rfl⟩
        go_wp2_with fail
        refine CD.mono ?_
        rintro e w1 ⟨rfl, rfl⟩
        go_wp2_with fail
        refine CS.mono ?_
        rintro e w8 ⟨rfl, hp8, dp8⟩
        have HFIN := FIN.out w8 hp8 dp8
        clear CS FIN hp8 dp8 CH CD
        have HF : Hid _ := HFIN
        clear HFIN
        cases ok with
        | true =>
          go_wp2_with fail
          go_ret
          exact ⟨rfl, HF.out⟩
        | false =>
          go_wp2_with fail
          go_ret
          exact ⟨rfl, HF.out⟩
  · rw [decide_eq_false hk] at CH
    rw [C.write_not hk]
    have HF : Hid (Cks U F w c r C W) := PRE.out _ _ h'.stays
    clear h' hb' hf PRE bA bB bC hk CD r0
    go_enter Try.func15, Try.ntmps15
    go_wp2_with fail
    rw [← hW]
    clear hW
    refine CH.mono ?_
    rintro e w1 ⟨rfl, rfl⟩
    go_wp2_with fail
    go_ret
    exact ⟨rfl, HF.out⟩

end Go.Proofs.Yteilnckkmmgpcaa
