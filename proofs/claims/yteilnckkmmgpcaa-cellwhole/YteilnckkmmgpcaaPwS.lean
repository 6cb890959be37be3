/-
  A step of layer 8's power, by what it does to the power itself. Conditions: fewer than 2^40 steps; what a step does returns, and leaves the power as it was.
-/
import Derived.Test.YteilnckkmmgpcaaPowP
namespace Go.Proofs.Yteilnckkmmgpcaa
open Go.RowKit

set_option maxRecDepth 100000 in
set_option maxHeartbeats 1000000 in
theorem oPStepP (w : World) {r : Nat} {S : PowS} (h : Pw w r S) {m : Nat} (hfit : S.fit m) (hm : m ≤ 1099511627776) (F : Nat) (caps : Array Value) (eF : ∀ args w, (callFunc F args).run Try.prog w = .ok (.enter F args) w) (R : World → World → Prop)
    (hdo : ∀ w1, Kp (fun k => k = r) w w1 → Pw w1 r S.next → Calls Try.prog F caps w1 fun e w2 => e = .returned (.tuple #[]) ∧ Pw w2 r S.next ∧ R w1 w2) :
    Calls Try.prog 26 #[.pointer (some ⟨r, 0, none⟩), .func (.func F) #[] caps] w fun e w' => e = .returned (.bool S.ok) ∧ Pw w' r S.next ∧ DoesP S r R w w' := by
  have h' := h
  obtain ⟨b, a, h1, h2, hb⟩ := h
  obtain ⟨n, fu, d, g⟩ := S
  obtain ⟨g1, g2, g3⟩ := hfit
  dsimp only at h2 g1 g2 g3 hb
  have hl := hb.lt
  have c0 := hb.cell 0
  have c4 := hb.cell 4
  have z4 := hb.free 4
  simp only [List.getElem?_cons_zero, List.getElem?_cons_succ] at c0 c4
  cases g with
  | true =>
    clear h1 h2 hb hdo
    go_enter Try.func26, Try.ntmps26
    go_wp2_with fail
    go_ret
    exact ⟨rfl, h', (show Kp (fun k => k = r) w w from Kp.refl _ _)⟩
  | false =>
    obtain ⟨e2, h3⟩ := h2 rfl
    clear h2
    clear h'
    have hb' := hb.setC 4 (.int .i64 ((n : Int) + 1))
    have k1 := kp_set w r 4 (.int .i64 ((n : Int) + 1))
    go_enter Try.func26, Try.ntmps26
    go_wp2_with fail
    generalize w.setCell ⟨r, 4, none⟩ (.int .i64 ((n : Int) + 1)) = W1 at *
    refine (oBurn W1 (d := d) h1 hb').mono ?_
    rintro e w1 ⟨rfl, hb1, k2⟩
    have k12 := k1.trans k2
    have hgo : (b && decide (a ≤ 0)) = decide (fu = 0) := by
      rw [e2]
      by_cases hf : 0 ≤ fu
      · rw [h3 hf, decide_eq_true hf, Bool.true_and]
        by_cases h0 : fu = 0
        · rw [decide_eq_true h0, decide_eq_true (by omega)]
        · rw [decide_eq_false h0, decide_eq_false (by omega)]
      · rw [decide_eq_false hf, decide_eq_false (show ¬ fu = 0 by omega)]
        rfl
    have hp : Pw w1 r (PowS.next ⟨n, fu, d, false⟩) := by
      unfold PowS.next
      rw [if_neg (by simp)]
      by_cases hf : fu < 0
      · rw [decide_eq_false (show ¬ 0 ≤ fu by omega)] at e2
        subst e2
        dsimp only
        rw [if_pos hf]
        exact ⟨false, a, h1, fun _ => ⟨(decide_eq_false (show ¬ 0 ≤ fu by omega)).symm, fun h => absurd h (by dsimp only; omega)⟩, hb1⟩
      · rw [decide_eq_true (show 0 ≤ fu by omega)] at e2
        subst e2
        obtain rfl := h3 (by omega)
        dsimp only
        rw [if_neg hf]
        rw [hgo] at hb1
        by_cases h0 : a = 0
        · subst h0
          exact ⟨true, 0, by omega, fun h => (by cases h), hb1⟩
        · rw [Bool.true_and, if_pos (by simp; omega)] at hb1
          exact ⟨true, a - 1, by omega, fun _ => ⟨(decide_eq_true (show 0 ≤ a - 1 by omega)).symm, fun _ => rfl⟩, hb1⟩
    have c3 := hb1.cell 3
    simp only [List.getElem?_cons_zero, List.getElem?_cons_succ] at c3
    have D := hdo w1 k12 hp
    clear hdo
    rw [hgo]
    have E : Hid (Calls Try.prog 32 #[.func (.func F) #[] caps] w1 fun e w2 => e = .returned (.tuple #[]) ∧ (Pw w2 r (PowS.next ⟨n, fu, d, false⟩) ∧ R w1 w2)) := oDo w1 F caps eF (fun w2 => Pw w2 r (PowS.next ⟨n, fu, d, false⟩) ∧ R w1 w2) D
    clear D hb hb' hb1 h1 e2 h3 g1 g2 g3 c0 c4 z4 k1 k2 hgo
    cases hz : decide (fu = 0) with
    | false =>
      go_wp2_with fail
      refine E.out.mono ?_
      rintro e w2 ⟨rfl, q1, q2⟩
      go_wp2_with fail
      go_ret
      unfold PowS.ok DoesP PowS.does
      dsimp only
      rw [hz]
      exact ⟨rfl, q1, w1, w2, k12, q2, Kp.refl _ _⟩
    | true =>
      cases d with
      | false =>
        go_wp2_with fail
        go_ret
        unfold PowS.ok DoesP PowS.does
        dsimp only
        rw [hz]
        exact ⟨rfl, hp, k12⟩
      | true =>
        go_wp2_with fail
        refine E.out.mono ?_
        rintro e w2 ⟨rfl, q1, q2⟩
        go_wp2_with fail
        go_ret
        unfold PowS.ok DoesP PowS.does
        dsimp only
        rw [hz]
        exact ⟨rfl, q1, w1, w2, k12, q2, Kp.refl _ _⟩

end Go.Proofs.Yteilnckkmmgpcaa
