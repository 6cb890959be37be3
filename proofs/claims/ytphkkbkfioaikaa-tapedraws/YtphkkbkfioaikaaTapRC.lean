/-
  The contract of layer 11's reference's Apart. Conditions: at most 1000 keys.
-/
import Derived.Test.YtphkkbkfioaikaaTapRA
import Derived.Test.YtphkkbkfioaikaaSame
namespace Go.Proofs.Ytphkkbkfioaikaa
open Go.RowKit

theorem getD_at {l : List (List UInt8)} {i : Nat} (h : i < l.length) : l.getD i [] = l[i] := by
  rw [List.getD_eq_getElem?_getD, List.getElem?_eq_getElem h]
  rfl
theorem apart_no {T : TapS} {i k : Nat} (hik : i < k) (hk : k < T.l.length) (h : T.l.getD i [] = T.l.getD k []) : T.apart = false := by
  unfold TapS.apart
  rw [decide_eq_false_iff_not]
  intro hn
  rw [getD_at (by omega), getD_at hk] at h
  exact (List.pairwise_iff_getElem.1 hn) i k (by omega) hk hik h
theorem apart_yes {T : TapS} (h : ∀ a b, a < b → b < T.l.length → T.l.getD a [] ≠ T.l.getD b []) : T.apart = true := by
  unfold TapS.apart
  rw [decide_eq_true_iff]
  refine List.pairwise_iff_getElem.2 fun i j hi hj hij => ?_
  rw [← getD_at hi, ← getD_at hj]
  exact h i j hij hj

set_option maxRecDepth 100000 in
set_option maxHeartbeats 4000000 in
theorem rTApart (w : World) {A : Nat → Prop} {T : TapS} {q : Tri} (h : RT A w T.l q) (hn : T.l.length ≤ 1000) :
    Calls Try.prog 11 #[tcV T q] w fun e w' => e = .returned (.bool T.apart) ∧ Below w.heap.size w w' := by
  obtain ⟨la, ln, lc⟩ := q
  have hl : T.l.length = ln := Sl.len h
  have bC : Blk (w.alloc (.cells #[.slice la ln lc, .int .i64 (T.next : Int)] 28)) w.heap.size [.slice la ln lc, .int .i64 (T.next : Int)] 28 := Blk.newAt w _ _ w.heap.size rfl _ rfl
  have HR : Hid (RT A (w.alloc (.cells #[.slice la ln lc, .int .i64 (T.next : Int)] 28)) T.l ⟨la, ln, lc⟩) := RT.below h (below_alloc _ _)
  have k0 : Below w.heap.size w (w.alloc (.cells #[.slice la ln lc, .int .i64 (T.next : Int)] 28)) := below_alloc _ _
  have HL : Hid (T.l.length = ln) := hl
  have hn1 : ln ≤ 1000 := by omega
  unfold tcV tcC
  dsimp only
  generalize (T.next : Int) = nx at *
  clear h hl hn
  go_enter Try.func11, Try.ntmps11
  go_wp2_with fail
  generalize w.alloc (.cells #[.slice la ln lc, .int .i64 nx] 28) = w1 at *
  have c0 : w1.cell? ⟨w.heap.size, 0, none⟩ = some (.slice la ln lc) := bC.cell 0
  have hlt1 := bC.lt
  clear bC
  go_loopw [3] (fun v wr => ∃ i d : Nat, i ≤ ln ∧ v = .int .i64 (i : Int) ∧ wr = w1.drewN d ∧ Hid (∀ a b, a < i → a < b → b < ln → T.l.getD a [] ≠ T.l.getD b [])) (fun v _ => ln - (intOf v).toNat)
  case atStart => exact ⟨0, 0, Nat.zero_le _, rfl, rfl, fun a b ha => by omega⟩
  case round =>
    obtain ⟨i, d, hi, rfl, rfl, hne⟩ := hrel
    by_cases hil : i < ln
    · have i1 : (i : Int) < (ln : Int) := by omega
      have e1 : T.l[i]? = some (T.l.getD i []) := by rw [List.getD_eq_getElem?_getD, List.getElem?_eq_getElem (by rw [HL.out]; exact hil)]; rfl
      obtain ⟨b, o, p, m, c, rfl, hb, hc, h5⟩ := Sl.bytes HR.out e1
      go_wp2_with fail
      go_loopw [4] (fun v wr => ∃ k d : Nat, i < k ∧ k ≤ ln ∧ v = .int .i64 (k : Int) ∧ wr = w1.drewN d ∧ Hid (∀ b, i < b → b < k → T.l.getD i [] ≠ T.l.getD b [])) (fun v _ => ln - (intOf v).toNat)
      case atStart => exact ⟨i + 1, d, by omega, by omega, by go_num, rfl, fun b h1 h2 => by omega⟩
      case round =>
        obtain ⟨k, d2, hik, hk, rfl, rfl, hnk⟩ := hrel
        by_cases hkl : k < ln
        · have k1 : (k : Int) < (ln : Int) := by omega
          have e2 : T.l[k]? = some (T.l.getD k []) := by rw [List.getD_eq_getElem?_getD, List.getElem?_eq_getElem (by rw [HL.out]; exact hkl)]; rfl
          obtain ⟨b', o', p2, m2, c2, hbo, hb2, hc2, h52⟩ := Sl.bytes HR.out e2
          obtain ⟨rfl, rfl⟩ : b' = b ∧ o' = o := by simp at hbo; exact ⟨hbo.1.symm, hbo.2.symm⟩
          clear hbo
          have HS : Hid (∀ q', Calls Try.prog 14 #[.slice p m c, .slice p2 m2 c2] ((w1.drewN d2).drewN q') fun e w' => e = .returned (.bool (decide (T.l.getD i [] = T.l.getD k []))) ∧ ∃ k, w' = ((w1.drewN d2).drewN q').drewN k) := fun q' => rSame ((w1.drewN d2).drewN q') ((h5.bs.drewN d2).drewN q') ((h52.bs.drewN d2).drewN q')
          have C0 : (w1.drewN d2).cell? ⟨w.heap.size, 0, none⟩ = some (.slice (some ⟨b', o', none⟩) ln lc) := c0
          have C1 : (w1.drewN d2).cell? ⟨b', o' + i, none⟩ = some (.slice p m c) := hc
          have C2 : (w1.drewN d2).cell? ⟨b', o' + k, none⟩ = some (.slice p2 m2 c2) := hc2
          have L0 : w.heap.size < (w1.drewN d2).heap.size := hlt1
          have L1 : b' < (w1.drewN d2).heap.size := hb
          have HW : Hid (∀ q', ∃ q'', (w1.drewN d2).drewN q' = w1.drewN q'') := fun q' => ⟨_, World.drewN_drewN _ _ _⟩
          have HK : Hid (Below w.heap.size w (w1.drewN d2)) := below_drN k0 _
          by_cases hs : T.l.getD i [] = T.l.getD k []
          · have HA : Hid (T.apart = false) := apart_no hik (by rw [HL.out]; exact hkl) hs
            rw [decide_eq_true hs] at HS
            clear hs h5 h52 hnk hne
            generalize w1.drewN d2 = wx at *
            go_wp2_with fail
            go_quiet ((go_at_call 14; exact Calls.quiet_of (HS.out _)))
            go_wp2_with fail
            go_ret
            exact ⟨by rw [HA.out]; rfl, below_drN HK.out _⟩
          · have HA : Hid (∀ b, i < b → b < k + 1 → T.l.getD i [] ≠ T.l.getD b []) := fun b h1 h2 => by
              by_cases hbk : b = k
              · rw [hbk]; exact hs
              · exact hnk.out b h1 (by omega)
            rw [decide_eq_false hs] at HS
            clear hs h5 h52 hnk
            generalize w1.drewN d2 = wx at *
            go_wp2_with fail
            go_quiet ((go_at_call 14; exact Calls.quiet_of (HS.out _)))
            go_wp2_with fail
            go_roundw
            case rel =>
              obtain ⟨q'', hq''⟩ := HW.out _
              exact ⟨k + 1, q'', by omega, by omega, by go_num, hq'', HA⟩
            case measure => simp [intOf]; omega
        · have k1 : ¬ (k : Int) < (ln : Int) := by omega
          have C0 : (w1.drewN d2).cell? ⟨w.heap.size, 0, none⟩ = some (.slice (some ⟨b, o, none⟩) ln lc) := c0
          have HA : Hid (∀ a b, a < i + 1 → a < b → b < ln → T.l.getD a [] ≠ T.l.getD b []) := fun a b h1 h2 h3 => by
            by_cases hai : a = i
            · subst hai; exact hnk.out b h2 (by omega)
            · exact hne.out a b (by omega) h2 h3
          go_wp2_with fail
          go_roundw
          case rel => exact ⟨i + 1, d2, by omega, by go_num, rfl, HA⟩
          case measure => simp [intOf]; omega
    · have i1 : ¬ (i : Int) < (ln : Int) := by omega
      have HA : Hid (T.apart = true) := apart_yes fun a b h1 h2 => hne.out a b (by have := HL.out; omega) h1 (by rw [← HL.out]; exact h2)
      have C0 : (w1.drewN d).cell? ⟨w.heap.size, 0, none⟩ = some (.slice la ln lc) := c0
      go_wp2_with fail
      go_ret
      exact ⟨by rw [HA.out]; rfl, below_drN k0 _⟩

end Go.Proofs.Ytphkkbkfioaikaa
