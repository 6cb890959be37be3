/-
  3 texts in one. No statement of the seat is proved here.
-/
import Derived.Test.YtbifikeecmaakaaG13

/-
  Two and three new variables in a region that draws its order: whichever is made first. No condition; no statement of the seat is proved here.
-/
namespace Go.Proofs.Ytbifikeecmaakaa
open Go.RowKit


theorem Grows.alloc (w : World) (o : Obj) : Grows w (w.alloc o) := below_alloc w o
theorem Blk.grows {w w' : World} {g : Nat} {vs : List Value} {t : TypeId} (h : Blk w g vs t) (hg : Grows w w') : Blk w' g vs t := h.below hg h.lt
theorem alloc1 {P : Program} {ops : Array Oper} {Q : Exit → Act → World → Prop} {md : Region.Mode} {S : World → Prop} (hS : ∀ w w', S w → Grows w w' → S w') {cells : Array Value} {t : TypeId} (i : Nat) (d : Tmp) (m : Makes P ops i d cells t) {fuel : Nat} {listed : Array Bool} {a : Act} {w : World} (hr : Region.ready md ops listed = [i])
    (h : ∀ g w', Grows w w' → S w' → Blk w' g cells.toList t → w.heap.size ≤ g → wpAnyG P md ops Q S fuel (listed.setIfInBounds i true) (a.put (some d) (.pointer (some ⟨g, 0, none⟩))) w') : wpAnyG P md ops Q S (fuel + 1) listed a w := by
  refine oneG i hr fun w' hg hs => m.op ⟨hS _ _ hs (Grows.alloc _ _), ?_⟩
  exact h _ _ (hg.trans (Grows.alloc _ _)) (hS _ _ hs (Grows.alloc _ _)) (Blk.new w' _ _) (Below.size hg)

theorem alloc2 {P : Program} {ops : Array Oper} {Q : Exit → Act → World → Prop} {md : Region.Mode} {S : World → Prop} (hS : ∀ w w', S w → Grows w w' → S w') {cells : Array Value} {t : TypeId} (i j : Nat) (d e : Tmp) (hij : i ≠ j) (hde : d ≠ e) (mi : Makes P ops i d cells t) (mj : Makes P ops j e cells t) {fuel : Nat} {listed : Array Bool} {a : Act} {w : World} (hr : Region.ready md ops listed = [i, j])
    (hi : Region.ready md ops (listed.setIfInBounds i true) = [j]) (hj : Region.ready md ops (listed.setIfInBounds j true) = [i])
    (h : ∀ g k w', Grows w w' → S w' → Blk w' g cells.toList t → Blk w' k cells.toList t → w.heap.size ≤ g → w.heap.size ≤ k → g ≠ k → wpAnyG P md ops Q S fuel ((listed.setIfInBounds i true).setIfInBounds j true) ((a.put (some d) (.pointer (some ⟨g, 0, none⟩))).put (some e) (.pointer (some ⟨k, 0, none⟩))) w') :
    wpAnyG P md ops Q S (fuel + 1 + 1) listed a w := by
  intro w' hg hs
  refine ⟨fun h0 => (by rw [h0] at hr; cases hr), fun x hx => ?_⟩
  rw [hr] at hx
  rcases List.mem_cons.1 hx with rfl | hx
  · refine mi.op ⟨hS _ _ hs (Grows.alloc _ _), alloc1 hS j e mj hi fun k w2 h2 hs2 b2 hk => ?_⟩
    have b1 := (Blk.new w' cells t).grows h2
    exact h _ k w2 (hg.trans ((Grows.alloc _ _).trans h2)) hs2 b1 b2 (Below.size hg) (Nat.le_trans (Below.size hg) (Nat.le_trans (by simp) hk)) (by rw [World.size_alloc] at hk; omega)
  · rw [List.mem_singleton.1 hx]
    refine mj.op ⟨hS _ _ hs (Grows.alloc _ _), alloc1 hS i d mi hj fun g w2 h2 hs2 b2 hk => ?_⟩
    have b1 := (Blk.new w' cells t).grows h2
    have := h g _ w2 (hg.trans ((Grows.alloc _ _).trans h2)) hs2 b2 b1 (Nat.le_trans (Below.size hg) (Nat.le_trans (by simp) hk)) (Below.size hg) (by rw [World.size_alloc] at hk; omega)
    rw [Array.setIfInBounds_comm _ _ hij, Act.put_comm a _ _ (fun z hz he => by cases hz; cases he; exact hde rfl)] at this
    exact this

theorem alloc3 {P : Program} {ops : Array Oper} {Q : Exit → Act → World → Prop} {md : Region.Mode} {S : World → Prop} (hS : ∀ w w', S w → Grows w w' → S w') {cells : Array Value} {t : TypeId} (i j k : Nat) (d e f : Tmp) (hij : i ≠ j) (hik : i ≠ k) (hjk : j ≠ k) (hde : d ≠ e) (hdf : d ≠ f) (hef : e ≠ f) (mi : Makes P ops i d cells t) (mj : Makes P ops j e cells t) (mk : Makes P ops k f cells t) {fuel : Nat} {listed : Array Bool} {a : Act} {w : World} (hr : Region.ready md ops listed = [i, j, k])
    (hi : Region.ready md ops (listed.setIfInBounds i true) = [j, k]) (hj : Region.ready md ops (listed.setIfInBounds j true) = [i, k]) (hk : Region.ready md ops (listed.setIfInBounds k true) = [i, j])
    (hi1 : Region.ready md ops ((listed.setIfInBounds i true).setIfInBounds j true) = [k]) (hi2 : Region.ready md ops ((listed.setIfInBounds i true).setIfInBounds k true) = [j]) (hi3 : Region.ready md ops ((listed.setIfInBounds j true).setIfInBounds k true) = [i])
    (h : ∀ g0 g1 g2 w', Grows w w' → S w' → Blk w' g0 cells.toList t → Blk w' g1 cells.toList t → Blk w' g2 cells.toList t → w.heap.size ≤ g0 → w.heap.size ≤ g1 → w.heap.size ≤ g2 → g0 ≠ g1 → g0 ≠ g2 → g1 ≠ g2 → wpAnyG P md ops Q S fuel (((listed.setIfInBounds i true).setIfInBounds j true).setIfInBounds k true) (((a.put (some d) (.pointer (some ⟨g0, 0, none⟩))).put (some e) (.pointer (some ⟨g1, 0, none⟩))).put (some f) (.pointer (some ⟨g2, 0, none⟩))) w') :
    wpAnyG P md ops Q S (fuel + 1 + 1 + 1) listed a w := by
  have pc : ∀ (b : Act) {x y : Tmp} (u v : Value), x ≠ y → (b.put (some x) u).put (some y) v = (b.put (some y) v).put (some x) u := fun b x y u v hxy => Act.put_comm b u v (fun z hz he => by cases hz; cases he; exact hxy rfl)
  intro w' hg hs
  refine ⟨fun h0 => (by rw [h0] at hr; cases hr), fun x hx => ?_⟩
  rw [hr] at hx
  rcases List.mem_cons.1 hx with rfl | hx
  · refine mi.op ⟨hS _ _ hs (Grows.alloc _ _), alloc2 hS j k e f hjk hef mj mk hi hi1 hi2 fun g1 g2 w2 h2 hs2 b2 b3 h1 h3 hne => ?_⟩
    have b1 := (Blk.new w' cells t).grows h2
    rw [World.size_alloc] at h1 h3
    have hw := Below.size hg
    exact h _ g1 g2 w2 (hg.trans ((Grows.alloc _ _).trans h2)) hs2 b1 b2 b3 hw (by omega) (by omega) (by omega) (by omega) hne
  · rcases List.mem_cons.1 hx with rfl | hx
    · refine mj.op ⟨hS _ _ hs (Grows.alloc _ _), alloc2 hS i k d f hik hdf mi mk hj (by rw [Array.setIfInBounds_comm _ _ (Ne.symm hij)]; exact hi1) hi3 fun g0 g2 w2 h2 hs2 b2 b3 h1 h3 hne => ?_⟩
      have b1 := (Blk.new w' cells t).grows h2
      rw [World.size_alloc] at h1 h3
      have hw := Below.size hg
      have := h g0 _ g2 w2 (hg.trans ((Grows.alloc _ _).trans h2)) hs2 b2 b1 b3 (by omega) hw (by omega) (by omega) hne (by omega)
      rw [Array.setIfInBounds_comm _ _ hij, pc a _ _ hde] at this
      exact this
    · rw [List.mem_singleton.1 hx]
      refine mk.op ⟨hS _ _ hs (Grows.alloc _ _), alloc2 hS i j d e hij hde mi mj hk (by rw [Array.setIfInBounds_comm _ _ (Ne.symm hik)]; exact hi2) (by rw [Array.setIfInBounds_comm _ _ (Ne.symm hjk)]; exact hi3) fun g0 g1 w2 h2 hs2 b2 b3 h1 h3 hne => ?_⟩
      have b1 := (Blk.new w' cells t).grows h2
      rw [World.size_alloc] at h1 h3
      have hw := Below.size hg
      have := h g0 g1 _ w2 (hg.trans ((Grows.alloc _ _).trans h2)) hs2 b2 b3 b1 (by omega) (by omega) hw hne (by omega) (by omega)
      rw [Array.setIfInBounds_comm _ _ hjk, Array.setIfInBounds_comm _ _ hik, pc _ _ _ hef, pc a _ _ hdf] at this
      exact this
end Go.Proofs.Ytbifikeecmaakaa

/-
  How anchors lie in memory ('Anc': their bytes, their keys, their numbers), and how they outlast what is made and written; the contracts of the program's within and checkKek, and of the reference's small. Conditions: none.
-/
namespace Go.Proofs.Ytbifikeecmaakaa
open Go.RowKit

/-- An anchor's cells. -/
def anc (a : AncS) (p q : Tri) : List Value := [.int .i64 a.seq, .int .i64 a.epoch, .int .i64 a.given, .int .i64 a.root, .int .i64 a.rootEpoch, .int .i64 a.pending, .slice p.la p.ln p.lc, .slice q.la q.ln q.lc]
def anV (a : AncS) (p q : Tri) : Value := .agg (anc a p q).toArray
def zanc : List Value := [.int .i64 0, .int .i64 0, .int .i64 0, .int .i64 0, .int .i64 0, .int .i64 0, .slice none 0 0, .slice none 0 0]
theorem anc_one (a : AncS) (p q : Tri) : ∀ v ∈ anc a p q, v.oneCell' = true := by
  intro v hv
  simp only [anc, List.mem_cons, List.not_mem_nil, or_false] at hv
  rcases hv with rfl | rfl | rfl | rfl | rfl | rfl | rfl | rfl <;> rfl
/-- A bucket's key's cells. -/
def kkc (k : KekS) (p : Option Addr) (m c : Nat) : List Value := [.int .i64 k.bucket, .int .i64 k.gen, .slice p m c]
theorem kkc_one (k : KekS) (p : Option Addr) (m c : Nat) : ∀ v ∈ kkc k p m c, v.oneCell' = true := by
  intro v hv
  simp only [kkc, List.mem_cons, List.not_mem_nil, or_false] at hv
  rcases hv with rfl | rfl | rfl <;> rfl
theorem sizeAn : (Try.prog.info? 25).map (·.size) = some 8 := by kernel_rfl
theorem sizeKk : (Try.prog.info? 78).map (·.size) = some 3 := by kernel_rfl
theorem infoKk : (Try.prog.info? 78).map (fun i => (i.zero, i.size, i.bytes)) = some (some (.agg #[.int .i64 0, .int .i64 0, .slice none 0 0]), 3, 40) := by kernel_rfl
theorem neAn5 : 25 ≠ 5 := by decide
theorem neKk5 : 78 ≠ 5 := by decide
theorem neAnKk : 25 ≠ 78 := by decide
/-- A bucket's key in memory of A. -/
def elK (A : Nat → Prop) (w : World) (k : KekS) (vs : List Value) : Prop := ∃ p m c, vs = kkc k p m c ∧ BA A w p m c k.key ∧ i64 k.bucket ∧ i64 k.gen
theorem elK.keep {A : Nat → Prop} {w w' : World} (hs : w.heap.size ≤ w'.heap.size) (hk : ∀ j, j < w.heap.size → A j → w'.heap[j]? = w.heap[j]?) : ∀ x vs, elK A w x vs → elK A w' x vs := by
  rintro x vs ⟨p, m, c, e, hb, h⟩
  exact ⟨p, m, c, e, hb.keep hs hk, h⟩
theorem elK.mono {A A' : Nat → Prop} {w : World} (hA : ∀ j, j < w.heap.size → A j → A' j) : ∀ x vs, elK A w x vs → elK A' w x vs := by
  rintro x vs ⟨p, m, c, e, hb, h⟩
  exact ⟨p, m, c, e, hb.mono hA, h⟩
def numsI (a : AncS) : Prop := i64 a.seq ∧ i64 a.epoch ∧ i64 a.given ∧ i64 a.root ∧ i64 a.rootEpoch ∧ i64 a.pending
/-- An anchor in memory of A. -/
structure Anc (A : Nat → Prop) (w : World) (a : AncS) (p q : Tri) : Prop where
  ma : BA A w p.la p.ln p.lc a.master
  ks : Sl (elK A) 3 A w q.la q.ln q.lc a.keks
  ns : numsI a
theorem Anc.keep {A : Nat → Prop} {w w' : World} {a : AncS} {p q : Tri} (h : Anc A w a p q) (hs : w.heap.size ≤ w'.heap.size) (hk : ∀ j, j < w.heap.size → A j → w'.heap[j]? = w.heap[j]?) : Anc A w' a p q :=
  ⟨h.ma.keep hs hk, h.ks.keep hs (elK.keep hs hk) hk, h.ns⟩
theorem Anc.below {A : Nat → Prop} {w w' : World} {a : AncS} {p q : Tri} (h : Anc A w a p q) (hb : Below w.heap.size w w') : Anc A w' a p q := h.keep hb.size fun j hj _ => hb.block j hj
theorem Anc.kp {A F : Nat → Prop} {w w' : World} {a : AncS} {p q : Tri} (h : Anc A w a p q) (k : Kp F w w') (hA : ∀ j, A j → ¬ F j) : Anc A w' a p q := h.keep k.size fun j hj ha => k.block j hj (hA j ha)
theorem Anc.mono {A A' : Nat → Prop} {w : World} {a : AncS} {p q : Tri} (h : Anc A w a p q) (hA : ∀ j, j < w.heap.size → A j → A' j) : Anc A' w a p q :=
  ⟨h.ma.mono hA, h.ks.mono (elK.mono hA) hA, h.ns⟩
theorem Anc.ml {A : Nat → Prop} {w : World} {a : AncS} {p q : Tri} (h : Anc A w a p q) : a.master.length = p.ln := h.ma.1.len
theorem Anc.kl {A : Nat → Prop} {w : World} {a : AncS} {p q : Tri} (h : Anc A w a p q) : a.keks.length = q.ln := h.ks.len
/-- The same but for its numbers. -/
theorem Anc.nums {A : Nat → Prop} {w : World} {a b : AncS} {p q : Tri} (h : Anc A w a p q) (h1 : b.master = a.master) (h2 : b.keks = a.keks) (h3 : numsI b) : Anc A w b p q :=
  ⟨by rw [h1]; exact h.ma, by rw [h2]; exact h.ks, h3⟩
def t0 : Tri := ⟨none, 0, 0⟩
theorem BA.none' (A : Nat → Prop) (w : World) : BA A w none 0 0 [] := ⟨Bs.nil w, fun h => by omega⟩
theorem i64_0 : i64 0 := ⟨by decide, by decide⟩
theorem Anc.zero (A : Nat → Prop) (w : World) : Anc A w zeroA t0 t0 := ⟨BA.none' _ _, Sl.nil _ _ _ _, i64_0, i64_0, i64_0, i64_0, i64_0, i64_0⟩
theorem anc_zero : anc zeroA t0 t0 = zanc := rfl
/-- The k-th key. -/
theorem Anc.at {A : Nat → Prop} {w : World} {a : AncS} {p q : Tri} (h : Anc A w a p q) {k : Nat} {x : KekS} (hx : a.keks[k]? = some x) : ∃ b o s m c, q.la = some ⟨b, o, none⟩ ∧ b < w.heap.size ∧ w.rangeAt b (o + k * 3) (kkc x s m c) ∧ BA A w s m c x.key ∧ i64 x.bucket ∧ i64 x.gen := by
  obtain ⟨b, o, vs, ha, hlt, hrg, hl, s, m, c, rfl, hB, i1, i2⟩ := Sl.at h.ks hx
  exact ⟨b, o, s, m, c, ha, hlt, hrg, hB, i1, i2⟩
theorem Anc.max {A : Nat → Prop} {w : World} {a : AncS} {p q : Tri} (h : Anc A w a p q) : q.ln ≤ 9223372036854775807 ∧ p.ln ≤ 9223372036854775807 := by
  have h1 := Sl.cap h.ks
  unfold maxLen at h1
  exact ⟨by omega, h.ma.1.max⟩

theorem oWithin (w : World) (n a b : Int) (v : Bool) (hv : v = decide (a ≤ n ∧ n ≤ b)) : Calls Try.prog 49 #[.int .i64 n, .int .i64 a, .int .i64 b] w fun e w' => e = .returned (.bool v) ∧ w = w' := by
  by_cases h0 : a ≤ n
  · by_cases h1 : n ≤ b
    · have HV : Hid (v = true) := by rw [hv]; exact decide_eq_true ⟨h0, h1⟩
      clear hv
      go_enter Try.func49, Try.ntmps49
      go_wp2_with fail
      go_ret
      exact ⟨by rw [HV.out]; rfl, rfl⟩
    · have HV : Hid (v = false) := by rw [hv]; exact decide_eq_false fun h => h1 h.2
      clear hv
      go_enter Try.func49, Try.ntmps49
      go_wp2_with fail
      go_ret
      exact ⟨by rw [HV.out]; rfl, rfl⟩
  · have HV : Hid (v = false) := by rw [hv]; exact decide_eq_false fun h => h0 h.1
    clear hv
    go_enter Try.func49, Try.ntmps49
    go_wp2_with fail
    go_ret
    exact ⟨by rw [HV.out]; rfl, rfl⟩
theorem rSmall (w : World) (n : Int) (v : Bool) (hv : v = decide (0 ≤ n ∧ n ≤ 1099511627776)) : Calls Try.prog 51 #[.int .i64 n] w fun e w' => e = .returned (.bool v) ∧ w = w' := by
  by_cases h0 : 0 ≤ n
  · by_cases h1 : n ≤ 1099511627776
    · have HV : Hid (v = true) := by rw [hv]; exact decide_eq_true ⟨h0, h1⟩
      clear hv
      go_enter Try.func51, Try.ntmps51
      go_wp2_with fail
      go_ret
      exact ⟨by rw [HV.out]; rfl, rfl⟩
    · have HV : Hid (v = false) := by rw [hv]; exact decide_eq_false fun h => h1 h.2
      clear hv
      go_enter Try.func51, Try.ntmps51
      go_wp2_with fail
      go_ret
      exact ⟨by rw [HV.out]; rfl, rfl⟩
  · have HV : Hid (v = false) := by rw [hv]; exact decide_eq_false fun h => h0 h.1
    clear hv
    go_enter Try.func51, Try.ntmps51
    go_wp2_with fail
    go_ret
    exact ⟨by rw [HV.out]; rfl, rfl⟩

set_option maxRecDepth 100000 in
theorem oCheckKek (w : World) (k : KekS) {p : Option Addr} {m c : Nat} (hm : k.key.length = m) : Calls Try.prog 50 #[.agg (kkc k p m c).toArray] w fun e w' => e = .returned (.int .i64 (chkK k)) ∧ Below w.heap.size w w' := by
  obtain ⟨kb, kg, kk⟩ := k
  unfold chkK kkc
  dsimp only at hm ⊢
  rw [hm]
  clear hm
  by_cases h0 : 0 ≤ kb ∧ kb ≤ 65535
  · have C1 := fun w => oWithin w kb 0 65535 true (decide_eq_true h0).symm
    by_cases h1 : 0 ≤ kg ∧ kg ≤ 65535
    · have C2 := fun w => oWithin w kg 0 65535 true (decide_eq_true h1).symm
      rw [if_neg (by omega)]
      by_cases h2 : m = 32
      · rw [if_neg (by omega)]
        have b2 : ((m : Int) == 32) = true := by simp; omega
        clear h0 h1
        go_enter Try.func50, Try.ntmps50
        go_wp2_with fail
        refine (C1 _).mono ?_
        rintro e w1 ⟨rfl, rfl⟩
        go_wp2_with fail
        refine (C2 _).mono ?_
        rintro e w1 ⟨rfl, rfl⟩
        go_wp2_with fail
        go_ret
        exact ⟨rfl, below_alloc _ _⟩
      · rw [if_pos (by omega)]
        have b2 : ((m : Int) == 32) = false := by simp; omega
        clear h0 h1
        go_enter Try.func50, Try.ntmps50
        go_wp2_with fail
        refine (C1 _).mono ?_
        rintro e w1 ⟨rfl, rfl⟩
        go_wp2_with fail
        refine (C2 _).mono ?_
        rintro e w1 ⟨rfl, rfl⟩
        go_wp2_with fail
        go_ret
        exact ⟨rfl, below_alloc _ _⟩
    · have C2 := fun w => oWithin w kg 0 65535 false (decide_eq_false h1).symm
      rw [if_pos (by omega)]
      clear h0 h1
      go_enter Try.func50, Try.ntmps50
      go_wp2_with fail
      refine (C1 _).mono ?_
      rintro e w1 ⟨rfl, rfl⟩
      go_wp2_with fail
      refine (C2 _).mono ?_
      rintro e w1 ⟨rfl, rfl⟩
      go_wp2_with fail
      go_ret
      exact ⟨rfl, below_alloc _ _⟩
  · have C1 := fun w => oWithin w kb 0 65535 false (decide_eq_false h0).symm
    rw [if_pos (by omega)]
    clear h0
    go_enter Try.func50, Try.ntmps50
    go_wp2_with fail
    refine (C1 _).mono ?_
    rintro e w1 ⟨rfl, rfl⟩
    go_wp2_with fail
    go_ret
    exact ⟨rfl, below_alloc _ _⟩

end Go.Proofs.Ytbifikeecmaakaa

/-
  Slices of rows of bytes that a call made itself: literals of one row, storing such a slice into a field, how they outlast what is written. No condition; no statement of the seat is proved here.
-/
namespace Go.Proofs.Ytbifikeecmaakaa
open Go.RowKit

theorem infoBy : (Try.prog.info? 22).map (fun i => (i.zero, i.size, i.bytes)) = some (some (.slice none 0 0), 1, 24) := by kernel_rfl
theorem neB5 : 22 ≠ 5 := by decide
/-- A literal of one slice, the one that may come up. -/
theorem opBS1 {ops : Array Oper} {Q : Exit → Act → World → Prop} {i : Nat} {oi : Oper} (d : Option Tmp) (hi : ops[i]? = some oi) (hd : oi.dst = d) (hg : oi.guard = none) (x : Operand) (ho : oi.op = .buildSlice 49 1 #[(0, x)]) {K : Act → World → Prop} {a : Act} {w : World} (s : Option Addr) (n c : Nat) (hx : a.eval x = .slice s n c)
    (k : K (a.put d (.slice (some ⟨w.heap.size, 0, none⟩) 1 1)) (w.alloc (.cells #[.slice s n c] 22))) : wpOp Try.prog ops Q i K a w := by
  subst hd
  have hK : Hid _ := k
  clear k
  unfold wpOp
  simp only [hi]
  rw [if_pos (by simp [Region.wanted, hg])]
  left
  unfold Oper.wp execOp
  simp only [ho, List.map_toArray, List.map_cons, List.map_nil, hx]
  go_simp
  exact hK.out
/-- A slice of slices stored into a field, the one that may come up. -/
theorem opStS {ops : Array Oper} {Q : Exit → Act → World → Prop} {i : Nat} {oi : Oper} (hi : ops[i]? = some oi) (hd : oi.dst = none) (hg : oi.guard = none) (x y : Operand) (ho : oi.op = .store 49 x y) {K : Act → World → Prop} {a : Act} {w : World} (g o : Nat) (hx : a.eval x = .pointer (some ⟨g, o, none⟩)) (s : Option Addr) (n c : Nat) (hy : a.eval y = .slice s n c) (vs : List Value) (t : TypeId) (hb : Blk w g vs t) (ho2 : o < vs.length)
    (k : K a (w.setCell ⟨g, o, none⟩ (.slice s n c))) : wpOp Try.prog ops Q i K a w := by
  have hc := hb.cell o
  rw [List.getElem?_eq_getElem ho2] at hc
  have hf := hb.free o
  have hl := hb.lt
  have hK : Hid _ := k
  clear k
  unfold wpOp
  simp only [hi]
  rw [if_pos (by simp [Region.wanted, hg])]
  left
  unfold Oper.wp execOp
  simp only [ho, hx, hy]
  go_simp
  exact hK.out
theorem Blk.not5' {w : World} {g : Nat} {vs : List Value} {t : TypeId} (h : Blk w g vs t) (ht : t ≠ 5) : ∀ cur f, w.heap[g]? ≠ some (.cells cur 5 f) := fun cur f hh => by
  rw [show w.heap[g]? = _ from h] at hh
  simp only [Option.some.injEq, Obj.cells.injEq] at hh
  exact ht hh.2.1
theorem but_cells' (g : Nat) : ∀ (us : List Value) (w : World) (o : Nat), w.grownBy (w.setCells g o us) (some g)
  | [], _, _ => World.grownBy.refl _ _
  | u :: us, w, o => but_trans (but_set w g o u) (but_cells' g us _ (o + 1))
theorem OwB.grown {A : Nat → Prop} {e : TypeId} {w w' : World} {base r : Nat} {v : Value} {l : List (List UInt8)} (h : OwS (elB A) 1 e w base v l) (g : w.grownBy w' (some r)) (hr : r < base) (h5 : ∀ cur f, w.heap[r]? ≠ some (.cells cur 5 f)) : OwS (elB A) 1 e w' base v l :=
  h.keep (elB.grown g (fun j cur f hj => by obtain rfl := Option.some.inj hj; exact h5 cur f)) (fun j hj => g.block j (h.lt j hj).2 (fun e => by have := (h.lt j hj).1; have := Option.some.inj e; omega))
theorem OwB.below {A : Nat → Prop} {e : TypeId} {w w' : World} {base : Nat} {v : Value} {l : List (List UInt8)} (h : OwS (elB A) 1 e w base v l) (g : Below w.heap.size w w') : OwS (elB A) 1 e w' base v l :=
  h.keep (elB.keep fun j hj _ => g.block j hj) (fun j hj => g.block j (h.lt j hj).2)

end Go.Proofs.Ytbifikeecmaakaa
