/-
  The contract of 'link': what was last, what it is for, and the count, as a list of parts of its own. Conditions: at most 1000 parts; a count of at most 255.
-/
import Derived.Test.YtpmdjailpdajkaaDoorOwnV
import Derived.Test.YtpmdjailpdajkaaDoorMacOf
namespace Go.Proofs.YtpmdjailpdajkaaDoor
open Go.RowKit

theorem Bs.grown {w w' : World} {r : Option Nat} {a : Option Addr} {n c : Nat} {l : List UInt8} (h : Bs w a n c l) (hg : w.grownBy w' r) (hr : 0 < n → ∀ x, a = some x → r ≠ some x.block) : Bs w' a n c l := by
  refine ⟨h.1, h.2.1, h.2.2.1, h.2.2.2.1, fun i hi => ?_⟩
  obtain ⟨b, o, ha, hc⟩ := h.2.2.2.2 i hi
  exact ⟨b, o, ha, hg.cell hc (fun e => hr (by omega) _ ha e.symm)⟩
theorem Own.blocks {w : World} {base : Nat} {a : Option Addr} {m c : Nat} {l : List UInt8} (h : Own w base (.slice a m c) l) (x : Addr) (hx : a = some x) : base ≤ x.block := by
  subst hx
  exact h.size _ rfl
theorem putL_one (i : Nat) : putL i 1 = [UInt8.ofNat i] := rfl

theorem one_cell (w : World) (v : Value) (t : TypeId) (i : Nat) (hi : i < 1) : ∃ b o, (some ⟨w.heap.size, 0, none⟩ : Option Addr) = some ⟨b, o, none⟩ ∧ (w.alloc (.cells #[v] t)).cell? ⟨b, o + i, none⟩ = ([v] : List Value)[i]? := by
  obtain rfl : i = 0 := by omega
  exact ⟨_, _, rfl, by rw [cell_new]; rfl⟩
theorem one_one {a : Option Addr} {m c : Nat} (u : Value) (h : u ∈ ([.slice a m c] : List Value)) : u.oneCell' = true := by
  simp only [List.mem_singleton] at h
  subst h
  rfl

theorem cells_on {w w' : World} {p : Option Addr} {pn : Nat} {vs : List Value} (h : ∀ i, i < pn → ∃ b o, p = some ⟨b, o, none⟩ ∧ w.cell? ⟨b, o + i, none⟩ = vs[i]?) (hl : vs.length = pn) (hb : Below w.heap.size w w') (i : Nat) (hi : i < pn) :
    ∃ b o, p = some ⟨b, o, none⟩ ∧ w'.cell? ⟨b, o + i, none⟩ = vs[i]? := by
  obtain ⟨b, o, e, hc⟩ := h i hi
  refine ⟨b, o, e, ?_⟩
  rw [List.getElem?_eq_getElem (by omega)] at hc ⊢
  rw [hb.cell (p := ⟨b, o + i, none⟩) (lt_of_cell hc)]
  exact hc

set_option maxHeartbeats 1000000 in
theorem oLink (w : World) {a p : Option Addr} {m c pn pc : Nat} {l : List UInt8} {ls : List (List UInt8)} (ha : Bs w a m c l) (hp : Bss w p pn pc ls) (hn : pn ≤ 1000) (i : Nat) (hi : i ≤ 255) :
    Calls Tryd.prog 27 #[.slice a m c, .slice p pn pc, .int .u64 (i : Int)] w fun e w' => ∃ a' c', e = .returned (.slice a' (pn + 2) c') ∧ Bss w' a' (pn + 2) c' (l :: (ls ++ [[UInt8.ofNat i]])) ∧ Below w.heap.size w w' := by
  have HN : Hid (ls.length = pn) := hp.len
  obtain ⟨vs, hv1, hv2, hv3⟩ := hp.vals
  have HV1 : Hid (∀ u ∈ vs, u.oneCell' = true) := fun u hu => by
    obtain ⟨j, hj, rfl⟩ := List.getElem_of_mem hu
    obtain ⟨x, y, z, e, _⟩ := hv3 j (by omega)
    rw [List.getElem?_eq_getElem hj] at e
    simp only [Option.some.injEq] at e
    rw [e]
    rfl
  have HVL : Hid (vs.length = pn) := hv1
  have CP : Hid (∀ w : World, Calls Tryd.prog 35 #[.int .u64 (i : Int), .int .i64 1] w (Gives w [UInt8.ofNat i])) := fun w => by
    have := oPut (i : Int) 1 w (by omega) (by omega) (by omega) (by omega)
    rw [Int.toNat_natCast, show (1 : Int).toNat = 1 from rfl, putL_one] at this
    exact this
  clear hv1
  have hpn : (pn : Int) + 2 ≤ 1002 := by omega
  go_enter Tryd.func27, Tryd.ntmps27
  go_wp2_with (first
    | (at_make; go_must (refine wpList_vmk0 w rfl _ _ rfl w.heap.size _ rfl rfl (by omega) (by omega) (Nat.le_refl _) ?_); intro v1 w1 ho1 hb1; have HA : Hid (OwnV (w1.alloc (.cells #[.slice a m c] 22)) w.heap.size v1 []) := ho1.below (below_alloc _ _) (Nat.le_refl _); have hs1 : w.heap.size ≤ (w1.alloc (.cells #[.slice a m c] 22)).heap.size := by simp; have := hb1.size; omega)
    | (at_builtin; refine wpList_vapp (w1.alloc (.cells #[.slice a m c] 22)) rfl (.tmp 12) (.tmp 14) rfl w.heap.size v1 [] rfl HA.out (some ⟨w1.heap.size, 0, none⟩) 1 1 [.slice a m c] rfl rfl (one_cell w1 _ _) one_one (by simp) hs1 ?_; intro v2 w2 ho2 hg2; rw [List.nil_append] at ho2; have hb2 : Below w.heap.size w w2 := (hb1.alloc hb1.size _).grown hg2 hs1 (fun k hk => ho1.size k hk); have hc2 : Hid (∀ i, i < pn → ∃ b o, p = some ⟨b, o, none⟩ ∧ w2.cell? ⟨b, o + i, none⟩ = vs[i]?) := cells_on hv2 HVL.out hb2)
    | (at_builtin; go_must (refine wpList_vapp w2 rfl (.tmp 16) (.tmp 17) rfl w.heap.size v2 [.slice a m c] rfl ho2 p pn pc vs rfl HVL.out hc2.out HV1.out (by rw [HVL.out]; simp; omega) hb2.size ?_); intro v3 w3 ho3 hg3; have hb3 : Below w.heap.size w w3 := hb2.grown hg3 hb2.size (fun k hk => ho2.size k hk)))
  refine (CP.out w3).mono ?_
  rintro e w4 ⟨a4, m4, c4, rfl, ho4, hb4⟩
  have hb4' := hb3.trans (hb4.mono hb3.size)
  have HA4 : Hid (OwnV (w4.alloc (.cells #[.slice a4 m4 c4] 22)) w.heap.size v3 ([.slice a m c] ++ vs)) := (ho3.below hb4 (Nat.le_refl _)).below (below_alloc _ _) (Nat.le_refl _)
  have hs4 : w.heap.size ≤ (w4.alloc (.cells #[.slice a4 m4 c4] 22)).heap.size := by simp; have := hb4'.size; omega
  go_wp2_with (first
    | (at_builtin; go_must (refine wpList_vapp (w4.alloc (.cells #[.slice a4 m4 c4] 22)) rfl (.tmp 19) (.tmp 22) rfl w.heap.size v3 ([.slice a m c] ++ vs) rfl HA4.out (some ⟨w4.heap.size, 0, none⟩) 1 1 [.slice a4 m4 c4] rfl rfl (one_cell w4 _ _) one_one (by rw [List.length_append, HVL.out]; simp; omega) hs4 ?_); intro v5 w5 ho5 hg5))
  have hb5 : Below w.heap.size w w5 := (hb4'.alloc hb4'.size _).grown hg5 hs4 (fun k hk => ho3.size k hk)
  have hB4 : Bs w5 a4 m4 c4 [UInt8.ofNat i] := (ho4.toBs.below (below_alloc w4 (.cells #[.slice a4 m4 c4] 22)) (Nat.le_refl _)).grown hg5 (fun _ x hx e => by
    have h1 := ho4.blocks x hx
    have h2 := ho3.lt _ e
    omega)
  have hlen : ([.slice a m c] ++ vs ++ [.slice a4 m4 c4] : List Value).length = pn + 2 := by have := HVL.out; simp; omega
  obtain ⟨a', c', rfl, hB⟩ := ho5.bss (ls := l :: (ls ++ [[UInt8.ofNat i]])) (by have := HN.out; have := HVL.out; simp; omega) (fun j hj => by
    rw [hlen] at hj
    by_cases h0 : j = 0
    · subst h0
      exact ⟨a, m, c, rfl, ha.below hb5 (Nat.le_refl _)⟩
    · obtain ⟨k, rfl⟩ := Nat.exists_eq_add_of_le (show 1 ≤ j by omega)
      rw [Nat.add_comm 1 k, List.append_assoc, List.singleton_append, List.getElem?_cons_succ, List.getD_cons_succ]
      by_cases hk : k < pn
      · obtain ⟨x, y, z, e, hb⟩ := hv3 k hk
        refine ⟨x, y, z, by rw [List.getElem?_append_left (by have := HVL.out; omega)]; exact e, ?_⟩
        rw [List.getD_eq_getElem?_getD, List.getElem?_append_left (by have := HN.out; omega), ← List.getD_eq_getElem?_getD]
        exact hb.below hb5 (Nat.le_refl _)
      · obtain rfl : k = pn := by omega
        refine ⟨a4, m4, c4, by rw [List.getElem?_append_right (by have := HVL.out; omega), HVL.out, Nat.sub_self]; rfl, ?_⟩
        rw [List.getD_eq_getElem?_getD, List.getElem?_append_right (by have := HN.out; omega), HN.out, Nat.sub_self]
        exact hB4)
  go_ret
  rw [hlen] at hB ⊢
  exact ⟨a', c', rfl, hB, hb5⟩

end Go.Proofs.YtpmdjailpdajkaaDoor
