/-
  Contracts of layer 15's reference: how its space lies in memory ('RZ'); Free, all, New. Conditions: none but that the space may be.
-/
import Derived.Test.YtcmbkpdefbaakaaSpaL
import Derived.Test.YtcmbkpdefbaakaaBools
namespace Go.Proofs.Ytcmbkpdefbaakaa
open Go.RowKit

/-- The reference's space, its blocks a slice at a that lies in memory of A. -/
structure RZ (A : Nat → Prop) (w : World) (S : SpS) (a : Option Addr) (c : Nat) : Prop where
  b : Bo w a S.l.length c S.l
  p : ∀ x, a = some x → A x.block
/-- Its cells. -/
def zc (S : SpS) (a : Option Addr) (c : Nat) : List Value := [.int .i64 (S.first : Int), .slice a S.l.length c]
theorem Bo.keep {F : Nat → Prop} {w w' : World} {a : Option Addr} {n c : Nat} {l : List Bool} (h : Bo w a n c l) (k : Kp F w w') (hF : ∀ x, a = some x → ¬ F x.block) : Bo w' a n c l := by
  refine ⟨h.1, h.2.1, h.2.2.1, h.2.2.2.1, fun i hi => ?_⟩
  obtain ⟨b, o, ha, hc⟩ := h.2.2.2.2 i hi
  refine ⟨b, o, ha, ?_⟩
  rw [World.cell?_of_block (w := w) (a := ⟨b, o + i, none⟩) (k.block b (lt_of_cell hc) (hF _ ha))]
  exact hc
theorem RZ.keep {A F : Nat → Prop} {w w' : World} {S : SpS} {a : Option Addr} {c : Nat} (h : RZ A w S a c) (k : Kp F w w') (hF : ∀ j, A j → ¬ F j) : RZ A w' S a c := ⟨h.b.keep k fun x hx => hF _ (h.p x hx), h.p⟩
theorem RZ.grow {A : Nat → Prop} {w w' : World} {S : SpS} {a : Option Addr} {c : Nat} (h : RZ A w S a c) (k : Below w.heap.size w w') : RZ A w' S a c := ⟨h.b.below k (Nat.le_refl _), h.p⟩
theorem OwnB.grown {w w' : World} {base r : Nat} {v : Value} {l : List Bool} (h : OwnB w base v l) (hg : w.grownBy w' (some r)) (hr : r < base) : OwnB w' base v l := by
  obtain ⟨h1, h2⟩ := h
  refine ⟨h1, ?_⟩
  rcases h2 with h2 | ⟨g, cap, cur, hv, hgb, hh, r2⟩
  · exact Or.inl h2
  · refine Or.inr ⟨g, cap, cur, hv, hgb, ?_, r2⟩
    have hlt : g < w.heap.size := (Array.getElem?_eq_some_iff.1 hh).1
    rw [hg.block g hlt (by simp; omega)]
    exact hh
theorem OwnB.shape {w : World} {base : Nat} {v : Value} {l : List Bool} (h : OwnB w base v l) : ∃ a n c, v = .slice a n c ∧ n = l.length := by
  obtain ⟨a, c, e, _⟩ := h.bo
  exact ⟨a, _, c, e, rfl⟩
theorem OwnB.rz {A : Nat → Prop} {w : World} {base : Nat} {a : Option Addr} {n c : Nat} {S : SpS} (h : OwnB w base (.slice a n c) S.l) (hA : ∀ j, base ≤ j → A j) : RZ A w S a c := by
  obtain ⟨a', c', e, hb, hp⟩ := h.bo
  simp only [Value.slice.injEq] at e
  obtain ⟨rfl, rfl, rfl⟩ := e
  exact ⟨hb, fun x hx => hA _ (hp x hx)⟩

set_option maxRecDepth 100000 in
set_option maxHeartbeats 1000000 in
theorem rFree15 (w : World) {A : Nat → Prop} {S : SpS} {a : Option Addr} {c : Nat} (h : RZ A w S a c) (ok : S.ok) : Calls Try.prog 10 #[.agg (zc S a c).toArray] w fun e w' => e = .returned (.int .i64 (freeL S.l : Int)) ∧ Below w.heap.size w w' := by
  have h1 := ok.n1
  have h2 := ok.n2
  obtain ⟨b, o, rfl, hbl, hc⟩ := h.b.at ok.n1
  have H : Hid (∀ i, i < S.l.length → (w.alloc (.cells (zc S (some ⟨b, o, none⟩) c).toArray 30)).cell? ⟨b, o + i, none⟩ = some (.bool (S.l.getD i false))) := fun i hi => by rw [(below_alloc w _).cell (p := ⟨b, o + i, none⟩) hbl]; exact hc i hi
  clear h hc ok
  unfold zc freeL at *
  generalize S.l.length = n at *
  generalize S.l = l at *
  generalize (S.first : Int) = f at *
  clear h1
  go_enter Try.func10, Try.ntmps10
  go_wp2_with fail
  go_loop [3, 4] (fun v x => ∃ k : Nat, k ≤ n ∧ x = .int .i64 (k : Int) ∧ v = .int .i64 (freeN l k : Int)) (fun _ x => n - (intOf x).toNat)
  case atStart => exact ⟨0, by omega, rfl, rfl⟩
  case round =>
    obtain ⟨k, hk, rfl, rfl⟩ := hrel
    by_cases hlt : k < n
    · have i1 : (k : Int) < (n : Int) := by omega
      have i0 : (0 : Int) ≤ (k : Int) := by omega
      have hv := freeN_le l k
      have HN : Hid (freeN l (k + 1) = freeN l k + (if l.getD k false then 0 else 1)) := rfl
      have c1 := H.out k hlt
      generalize freeN l k = V at *
      have hV : V ≤ 4096 := by omega
      clear hv
      cases hb : l.getD k false with
      | true =>
        rw [hb] at c1
        rw [hb, if_pos rfl] at HN
        clear hb
        go_wp2_with fail
        go_round
        case rel => exact ⟨k + 1, by omega, by go_num, by rw [HN.out, Nat.add_zero]⟩
        case measure => simp [intOf]; omega
      | false =>
        rw [hb] at c1
        rw [hb, if_neg (by decide)] at HN
        clear hb
        go_wp2_with fail
        go_round
        case rel => exact ⟨k + 1, by omega, by go_num, by rw [HN.out]; go_num⟩
        case measure => simp [intOf]; omega
    · obtain rfl : k = n := by omega
      have i1 : ¬ (k : Int) < (k : Int) := by omega
      go_wp2
      go_ret
      exact ⟨rfl, below_alloc _ _⟩

set_option maxRecDepth 100000 in
set_option maxHeartbeats 1000000 in
theorem rAll15 (w : World) {A : Nat → Prop} {S : SpS} {p : Option Addr} {c : Nat} (h : RZ A w S p c) (ok : S.ok) (a n : Nat) (b : Bool) (han : a + n ≤ S.l.length) : Calls Try.prog 22 #[.agg (zc S p c).toArray, .int .i64 (a : Int), .int .i64 (n : Int), .bool b] w fun e w' => e = .returned (.bool (allB S.l a n b)) ∧ Below w.heap.size w w' := by
  have h2 := ok.n2
  obtain ⟨g, o, rfl, hbl, hc⟩ := h.b.at ok.n1
  have H : Hid (∀ i, i < S.l.length → (w.alloc (.cells (zc S (some ⟨g, o, none⟩) c).toArray 30)).cell? ⟨g, o + i, none⟩ = some (.bool (S.l.getD i false))) := fun i hi => by rw [(below_alloc w _).cell (p := ⟨g, o + i, none⟩) hbl]; exact hc i hi
  have HL : Hid (a + n ≤ S.l.length) := han
  clear h hc ok han
  unfold zc at *
  generalize S.l.length = m at *
  generalize S.l = l at *
  generalize (S.first : Int) = f at *
  go_enter Try.func22, Try.ntmps22
  go_wp2_with fail
  go_loop [9] (fun x => ∃ k : Nat, k ≤ n ∧ x = .int .i64 (k : Int) ∧ allB l a k b = true) (fun x => n - (intOf x).toNat)
  case atStart => exact ⟨0, by omega, rfl, rfl⟩
  case round =>
    obtain ⟨k, hk, rfl, hall⟩ := hrel
    have HA : Hid (allB l a k b = true) := hall
    clear hall
    by_cases hlt : k < n
    · have i1 : (k : Int) < (n : Int) := by omega
      have := HL.out
      obtain ⟨j, hj⟩ : ∃ j, j = a + k := ⟨_, rfl⟩
      have j1 : (a : Int) + (k : Int) = (j : Int) := by omega
      have j2 : (j : Int) < (m : Int) := by omega
      have j0 : (0 : Int) ≤ (j : Int) := by omega
      have j3 : (m : Int) ≤ 4096 := by omega
      have c1 := H.out j (by omega)
      have HE : Hid (allB l a (k + 1) b = (l.getD j false == b)) := by show _ = _; rw [allB_succ, HA.out, Bool.true_and, hj]
      have HM : Hid (k + 1 ≤ n) := hlt
      clear hj this
      generalize l.getD j false = x at *
      cases x <;> cases b
      · go_wp2_with fail
        go_round
        case rel => exact ⟨k + 1, by omega, by go_num, HE.out⟩
        case measure => simp [intOf]; omega
      · have HF : Hid (allB l a n true = false) := allB_mono HM.out HE.out
        go_wp2_with fail
        go_ret
        exact ⟨ret_bool (a := false) HF.out.symm, below_alloc _ _⟩
      · have HF : Hid (allB l a n false = false) := allB_mono HM.out HE.out
        go_wp2_with fail
        go_ret
        exact ⟨ret_bool (a := false) HF.out.symm, below_alloc _ _⟩
      · go_wp2_with fail
        go_round
        case rel => exact ⟨k + 1, by omega, by go_num, HE.out⟩
        case measure => simp [intOf]; omega
    · obtain rfl : k = n := by omega
      have i1 : ¬ (k : Int) < (k : Int) := by omega
      go_wp2
      go_ret
      exact ⟨ret_bool (a := true) HA.out.symm, below_alloc _ _⟩

end Go.Proofs.Ytcmbkpdefbaakaa
