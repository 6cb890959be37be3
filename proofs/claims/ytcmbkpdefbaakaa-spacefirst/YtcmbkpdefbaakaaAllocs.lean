/-
  Two and three new variables in a region that draws its order: whichever is made first. No condition; no statement of the seat is proved here.
-/
import Derived.Test.YtcmbkpdefbaakaaGrow
namespace Go.Proofs.Ytcmbkpdefbaakaa
open Go.RowKit


theorem Grows.alloc (w : World) (o : Obj) : Grows w (w.alloc o) := below_alloc w o
theorem Blk.grows {w w' : World} {g : Nat} {vs : List Value} {t : TypeId} (h : Blk w g vs t) (hg : Grows w w') : Blk w' g vs t := h.below hg h.lt
theorem alloc1 {P : Program} {ops : Array Oper} {Q : Exit → Act → World → Prop} {md : Region.Mode} {S : World → Prop} (hS : ∀ w w', S w → Grows w w' → S w') {cells : Array Value} {t : TypeId} (i : Nat) (d : Tmp) (m : Makes P ops i d cells t) {fuel : Nat} {listed : Array Bool} {a : Act} {w : World} (hr : Region.ready md ops listed = [i])
    (h : ∀ g w', Grows w w' → S w' → Blk w' g cells.toList t → w.heap.size ≤ g → wpAnyG P md ops Q S fuel (listed.setIfInBounds i true) (a.put (some d) (.pointer (some ⟨g, 0, none⟩))) w') : wpAnyG P md ops Q S (fuel + 1) listed a w := by
  refine oneG i hr fun w' hg hs => m.op ⟨hS _ _ hs (Grows.alloc _ _), ?_⟩
  exact h _ _ (hg.trans (Grows.alloc _ _)) (hS _ _ hs (Grows.alloc _ _)) (Blk.new w' _ _) (Below.size hg)

theorem alloc2 {P : Program} {ops : Array Oper} {Q : Exit → Act → World → Prop} {md : Region.Mode} {S : World → Prop} (hS : ∀ w w', S w → Grows w w' → S w') {cells : Array Value} {t : TypeId} (i j : Nat) (d e : Tmp) (hij : i ≠ j) (hde : d ≠ e) (mi : Makes P ops i d cells t) (mj : Makes P ops j e cells t) {fuel : Nat} {listed : Array Bool} {a : Act} {w : World} (hr : Region.ready md ops listed = [i, j])
    (hi : Region.ready md ops (listed.setIfInBounds i true) = [j]) (hj : Region.ready md ops (listed.setIfInBounds j true) = [i])
    (h : ∀ g k w', Grows w w' → S w' → Blk w' g cells.toList t → Blk w' k cells.toList t → w.heap.size ≤ g → w.heap.size ≤ k → g ≠ k → wpAnyG P md ops Q S fuel ((listed.setIfInBounds i true).setIfInBounds j true) ((a.put (some d) (.pointer (some ⟨g, 0, none⟩))).put (some e) (.pointer (some ⟨k, 0, none⟩))) w') :
    wpAnyG P md ops Q S (fuel + 1 + 1) listed a w := by
  intro w' hg hs
  refine ⟨fun h0 => (by rw [h0] at hr; cases hr), fun x hx => ?_⟩
  rw [hr] at hx
  rcases List.mem_cons.1 hx with rfl | hx
  · refine mi.op ⟨hS _ _ hs (Grows.alloc _ _), alloc1 hS j e mj hi fun k w2 h2 hs2 b2 hk => ?_⟩
    have b1 := (Blk.new w' cells t).grows h2
    exact h _ k w2 (hg.trans ((Grows.alloc _ _).trans h2)) hs2 b1 b2 (Below.size hg) (Nat.le_trans (Below.size hg) (Nat.le_trans (by simp) hk)) (by rw [World.size_alloc] at hk; omega)
  · rw [List.mem_singleton.1 hx]
    refine mj.op ⟨hS _ _ hs (Grows.alloc _ _), alloc1 hS i d mi hj fun g w2 h2 hs2 b2 hk => ?_⟩
    have b1 := (Blk.new w' cells t).grows h2
    have := h g _ w2 (hg.trans ((Grows.alloc _ _).trans h2)) hs2 b2 b1 (Nat.le_trans (Below.size hg) (Nat.le_trans (by simp) hk)) (Below.size hg) (by rw [World.size_alloc] at hk; omega)
    rw [Array.setIfInBounds_comm _ _ hij, Act.put_comm a _ _ (fun z hz he => by cases hz; cases he; exact hde rfl)] at this
    exact this

theorem alloc3 {P : Program} {ops : Array Oper} {Q : Exit → Act → World → Prop} {md : Region.Mode} {S : World → Prop} (hS : ∀ w w', S w → Grows w w' → S w') {cells : Array Value} {t : TypeId} (i j k : Nat) (d e f : Tmp) (hij : i ≠ j) (hik : i ≠ k) (hjk : j ≠ k) (hde : d ≠ e) (hdf : d ≠ f) (hef : e ≠ f) (mi : Makes P ops i d cells t) (mj : Makes P ops j e cells t) (mk : Makes P ops k f cells t) {fuel : Nat} {listed : Array Bool} {a : Act} {w : World} (hr : Region.ready md ops listed = [i, j, k])
    (hi : Region.ready md ops (listed.setIfInBounds i true) = [j, k]) (hj : Region.ready md ops (listed.setIfInBounds j true) = [i, k]) (hk : Region.ready md ops (listed.setIfInBounds k true) = [i, j])
    (hi1 : Region.ready md ops ((listed.setIfInBounds i true).setIfInBounds j true) = [k]) (hi2 : Region.ready md ops ((listed.setIfInBounds i true).setIfInBounds k true) = [j]) (hi3 : Region.ready md ops ((listed.setIfInBounds j true).setIfInBounds k true) = [i])
    (h : ∀ g0 g1 g2 w', Grows w w' → S w' → Blk w' g0 cells.toList t → Blk w' g1 cells.toList t → Blk w' g2 cells.toList t → w.heap.size ≤ g0 → w.heap.size ≤ g1 → w.heap.size ≤ g2 → g0 ≠ g1 → g0 ≠ g2 → g1 ≠ g2 → wpAnyG P md ops Q S fuel (((listed.setIfInBounds i true).setIfInBounds j true).setIfInBounds k true) (((a.put (some d) (.pointer (some ⟨g0, 0, none⟩))).put (some e) (.pointer (some ⟨g1, 0, none⟩))).put (some f) (.pointer (some ⟨g2, 0, none⟩))) w') :
    wpAnyG P md ops Q S (fuel + 1 + 1 + 1) listed a w := by
  have pc : ∀ (b : Act) {x y : Tmp} (u v : Value), x ≠ y → (b.put (some x) u).put (some y) v = (b.put (some y) v).put (some x) u := fun b x y u v hxy => Act.put_comm b u v (fun z hz he => by cases hz; cases he; exact hxy rfl)
  intro w' hg hs
  refine ⟨fun h0 => (by rw [h0] at hr; cases hr), fun x hx => ?_⟩
  rw [hr] at hx
  rcases List.mem_cons.1 hx with rfl | hx
  · refine mi.op ⟨hS _ _ hs (Grows.alloc _ _), alloc2 hS j k e f hjk hef mj mk hi hi1 hi2 fun g1 g2 w2 h2 hs2 b2 b3 h1 h3 hne => ?_⟩
    have b1 := (Blk.new w' cells t).grows h2
    rw [World.size_alloc] at h1 h3
    have hw := Below.size hg
    exact h _ g1 g2 w2 (hg.trans ((Grows.alloc _ _).trans h2)) hs2 b1 b2 b3 hw (by omega) (by omega) (by omega) (by omega) hne
  · rcases List.mem_cons.1 hx with rfl | hx
    · refine mj.op ⟨hS _ _ hs (Grows.alloc _ _), alloc2 hS i k d f hik hdf mi mk hj (by rw [Array.setIfInBounds_comm _ _ (Ne.symm hij)]; exact hi1) hi3 fun g0 g2 w2 h2 hs2 b2 b3 h1 h3 hne => ?_⟩
      have b1 := (Blk.new w' cells t).grows h2
      rw [World.size_alloc] at h1 h3
      have hw := Below.size hg
      have := h g0 _ g2 w2 (hg.trans ((Grows.alloc _ _).trans h2)) hs2 b2 b1 b3 (by omega) hw (by omega) (by omega) hne (by omega)
      rw [Array.setIfInBounds_comm _ _ hij, pc a _ _ hde] at this
      exact this
    · rw [List.mem_singleton.1 hx]
      refine mk.op ⟨hS _ _ hs (Grows.alloc _ _), alloc2 hS i j d e hij hde mi mj hk (by rw [Array.setIfInBounds_comm _ _ (Ne.symm hik)]; exact hi2) (by rw [Array.setIfInBounds_comm _ _ (Ne.symm hjk)]; exact hi3) fun g0 g1 w2 h2 hs2 b2 b3 h1 h3 hne => ?_⟩
      have b1 := (Blk.new w' cells t).grows h2
      rw [World.size_alloc] at h1 h3
      have hw := Below.size hg
      have := h g0 g1 _ w2 (hg.trans ((Grows.alloc _ _).trans h2)) hs2 b2 b3 b1 (by omega) (by omega) hw hne (by omega) (by omega)
      rw [Array.setIfInBounds_comm _ _ hjk, Array.setIfInBounds_comm _ _ hik, pc _ _ _ hef, pc a _ _ hdf] at this
      exact this
end Go.Proofs.Ytcmbkpdefbaakaa
