/-
  5 texts in one. No statement of the seat is proved here.
-/
import Derived.Test.YtnmmopneacdgfaaI6
import Derived.Deep.Matrix
import Derived.Deep.DeepCutAuto
/-
  How an argument that is a slice of bytes is opened into a plain list. No condition; no statement of the seat is proved here.
-/
namespace Go.Proofs.Ytnmmopneacdgfaa
open Go.RowKit Go.ChangeShapes Go.WideShapes Go.ChangeAt

theorem Bs.of_trod {H : Type} {enc : TypeId × Value → H} {W : World} {base : Nat} {held : Bool} {fuel : Nat} {a : Option Addr} {n c : Nat} {x : DataW H × List MemPlace}
    (h : DataW.trod enc Try.prog W base (fun _ => true) held fuel 26 [.slice a n c] = some x) : ∃ l, Bs W a n c l := by
  rcases open_ints Try.underlying26 Try.underlying5 (by kernel_rfl) h with ⟨hcs, _⟩ | ⟨x, l, c, zs, hcs, _, hl, hm, hz, _, hcell, hwz⟩
  · simp at hcs
    obtain ⟨rfl, rfl, rfl⟩ := hcs
    exact ⟨[], Bs.nil W⟩
  · simp at hcs
    obtain ⟨rfl, rfl, rfl⟩ := hcs
    exact Bs.of_row (zs := zs) (Or.inr ⟨_, rfl, hl, hm, by simpa using hz, hcell, hwz⟩)

end Go.Proofs.Ytnmmopneacdgfaa

/-
  How slices of structs and bytes that were handed in are opened. No condition; no statement of the seat is proved here.
-/
namespace Go.Proofs.Ytnmmopneacdgfaa
open Go.RowKit Go.ChangeShapes Go.WideShapes Go.ChangeAt

theorem Rel2.map {α β : Type} {R : α → β → Prop} {f : Nat → α} {g : Nat → β} : ∀ {L : List Nat}, (∀ i ∈ L, R (f i) (g i)) → Rel2 R (L.map f) (L.map g)
  | [], _ => trivial
  | a :: L, h => ⟨h a (by simp), Rel2.map fun i hi => h i (by simp [hi])⟩
theorem len_cons {l : List Value} {n : Nat} (h : l.length = n + 1) : ∃ a m, l = a :: m ∧ m.length = n := by
  cases l with
  | nil => simp at h
  | cons a m => exact ⟨a, m, rfl, by simpa using h⟩
theorem len_zero {l : List Value} (h : l.length = 0) : l = [] := List.length_eq_zero_iff.1 h
/-- Rows in memory, each of them a struct, are a slice of structs. -/
theorem Sl.of_rows {α : Type} (z0 : α) {el : World → α → List Value → Prop} {sz : Nat} {A : Nat → Prop} {W : World} {base : Nat} {y : Addr} {n c : Nat} (hsz : 0 < sz) (hl : n ≤ c) (hm : c ≤ maxLen) (hA : ∀ j, j < W.heap.size → A j)
    (hrow : ∀ i, i < n → ∃ cs', W.cells? base (y.add (i * sz)) sz = some cs' ∧ ∃ x, Row el sz W x cs') : ∃ l, Sl el sz A W (some y) n c l := by
  haveI : Inhabited α := ⟨z0⟩
  have hex : ∀ i, i < n → ∃ z : α × List Value, W.cells? base (y.add (i * sz)) sz = some z.2 ∧ Row el sz W z.1 z.2 := by
    intro i hi
    obtain ⟨cs', h1, x, h2⟩ := hrow i hi
    exact ⟨(x, cs'), h1, h2⟩
  obtain ⟨f, hf⟩ := Deep.choose_lt hex
  have hrel : Rel2 (Row el sz W) ((List.range n).map fun i => (f i).1) ((List.range n).map fun i => (f i).2) := Rel2.map fun i hi => (hf i (by simpa using hi)).2
  refine ⟨(List.range n).map fun i => (f i).1, (List.range n).map fun i => (f i).2, hrel, by simp, hl, hm, by simp, fun hn => ?_⟩
  obtain ⟨b, o, s⟩ := y
  have h00 := (hf 0 hn).1
  obtain ⟨_, hlen0, h0⟩ := World.cells?_some h00
  have hc0 := h0 0 hsz
  have hlt : 0 < (f 0).2.length := by omega
  rw [List.getElem?_eq_getElem hlt] at hc0
  have hs : s = none := by
    have := World.cell?_spot hc0
    simpa [Addr.add] using this
  subst hs
  rw [add_none, add_none] at hc0
  refine ⟨b, o, rfl, lt_of_cell hc0, hA _ (lt_of_cell hc0), ?_⟩
  intro j v hj
  have hflen := flatC_len (rel_lens hrel)
  have hjl : j < n * sz := by
    have := (List.getElem?_eq_some_iff.1 hj).1
    rw [hflen] at this
    simpa using this
  have hi : j / sz < n := (Nat.div_lt_iff_lt_mul hsz).2 hjl
  have hr : j % sz < sz := Nat.mod_lt _ hsz
  have hdm : j / sz * sz + j % sz = j := by rw [Nat.mul_comm]; exact Nat.div_add_mod j sz
  have hfl := flat_at (rel_lens hrel) (i := j / sz) (vs := (f (j / sz)).2) (by simp [hi]) (j % sz) hr
  rw [hdm, hj] at hfl
  obtain ⟨_, _, hcell⟩ := World.cells?_some (hf (j / sz) hi).1
  have hc := hcell (j % sz) hr
  rw [add_none, add_none, ← hfl, Nat.add_assoc, hdm] at hc
  exact hc

theorem BA.of_trod {H : Type} {enc : TypeId × Value → H} {W : World} {base : Nat} {held : Bool} {fuel : Nat} {a : Option Addr} {n c : Nat} {x : DataW H × List MemPlace} {A : Nat → Prop} (hA : ∀ j, j < W.heap.size → A j)
    (h : DataW.trod enc Try.prog W base (fun _ => true) held fuel 26 [.slice a n c] = some x) : ∃ l, BA A W a n c l := by
  obtain ⟨l, hb⟩ := Bs.of_trod h
  refine ⟨l, hb, fun hn => ?_⟩
  obtain ⟨b, o, ha, hlt, _⟩ := hb.at hn
  exact ⟨_, ha, hA _ hlt, hlt⟩
/-- A slice in a field. -/
theorem slice_of_trod {H : Type} {enc : TypeId × Value → H} {W : World} {base : Nat} {held : Bool} {fuel : Nat} {t e : TypeId} {v : Value} {x : DataW H × List MemPlace} (ht : Try.prog.underlying t = some (.slice e))
    (h : DataW.trod enc Try.prog W base (fun _ => true) held fuel t [v] = some x) : ∃ a n c, v = .slice a n c := by
  rcases Deep.open_slice ht h with ⟨hcs, _⟩ | ⟨y, len, cap, m, n', D, Pl, hcs, _⟩
  · simp at hcs
    exact ⟨_, _, _, hcs⟩
  · simp at hcs
    exact ⟨_, _, _, hcs⟩

end Go.Proofs.Ytnmmopneacdgfaa

/-
  Contracts of layer 18's program: several pairs, several kids read. Condition: at most 100000 bytes left, a count of at most 65535.
-/
namespace Go.Proofs.Ytnmmopneacdgfaa
open Go.RowKit
set_option linter.unusedVariables false
theorem Rd.app {w w' : World} {r : Nat} {l : List UInt8} {c : Int} {o : Option Nat} (h : Rd w r l c) (g : w.grownBy w' o) (ho : ∀ j, o = some j → r < j) : Rd w' r l c := by
  cases o with
  | none => exact h.below (⟨g.os, g.tape, g.output, g.size, fun j hj => g.block j hj (fun e => nomatch e)⟩ : Below w.heap.size w w') (Nat.le_refl _)
  | some X => exact h.but g (ho X rfl)
theorem but_app {w u u' : World} {r : Nat} {o : Option Nat} (h : w.grownBy u (some r)) (g : u.grownBy u' o) (ho : ∀ j, o = some j → w.heap.size ≤ j) : w.grownBy u' (some r) :=
  ⟨g.os.trans h.os, g.tape.trans h.tape, g.output.trans h.output, Nat.le_trans h.size g.size, fun i hi hr => (g.block i (Nat.lt_of_lt_of_le hi h.size) (fun e => by have := ho i e.symm; omega)).trans (h.block i hi hr)⟩
theorem itR_len {nx : RdS → RdS} (hn : ∀ s, s.1.length ≤ 100000 → (nx s).1.length ≤ 100000) {s : RdS} (h : s.1.length ≤ 100000) : ∀ k, (itR nx k s).1.length ≤ 100000
  | 0 => h
  | k + 1 => hn _ (itR_len hn h k)
theorem restP_len {s : RdS} (h : s.1.length ≤ 100000) : (restP s).1.length ≤ 100000 := rN_len (rN_len (rN_len (rN_len h _) _) _) _
theorem restD_len {s : RdS} (h : s.1.length ≤ 100000) : (restD s).1.length ≤ 100000 := rN_len (rN_len (rN_len (rN_len h _) _) _) _
set_option maxRecDepth 100000 in
set_option maxHeartbeats 4000000 in
theorem oSevP (w : World) (r : Nat) {s : RdS} (h : Rd w r s.1 s.2) (hz : s.1.length ≤ 100000) (cnt : Nat) (hc : cnt ≤ 65535) : Calls Try.prog 73 #[.pointer (some ⟨r, 0, none⟩), .int .u64 (cnt : Int), .func (.func 74) #[] #[]] w fun e w' => ∃ a m c, e = .returned (.slice a m c) ∧ OwS (elPr5 fun j => w.heap.size ≤ j) 2 44 w' w.heap.size (.slice a m c) (sevK pairR restP (cntR restP cnt s) s) ∧ Rd w' r (itR restP (cntR restP cnt s) s).1 (itR restP (cntR restP cnt s) s).2 ∧ w.grownBy w' (some r) := by
  have hr := h.lt
  have hcall := Try.call74
  have ZL : Hid (∀ k, (itR restP k s).1.length ≤ 100000) := itR_len (fun _ => restP_len) hz
  have R0 : Hid (Rd w r (itR restP 0 s).1 (itR restP 0 s).2) := h
  have H9 : Hid (∀ k, cntR restP cnt s = k → sevK pairR restP k s = sevK pairR restP (cntR restP cnt s) s ∧ itR restP k s = itR restP (cntR restP cnt s) s) := fun k hk => by rw [hk]; exact ⟨rfl, rfl⟩
  generalize sevK pairR restP (cntR restP cnt s) s = L9 at *
  generalize itR restP (cntR restP cnt s) s = s9 at *
  clear h hz
  go_enter Try.func73, Try.ntmps73
  go_wp2_with fail
  go_loopw [7, 9] (fun v i wr => ∃ k : Nat, k ≤ cnt ∧ i = .int .u64 (k : Int) ∧ (∃ pa pm pc, v = .slice pa pm pc ∧ Hid (OwS (elPr5 fun j => w.heap.size ≤ j) 2 44 wr w.heap.size (.slice pa pm pc) (sevK pairR restP k s))) ∧ Hid (∀ j, j < k → (itR restP j s).2 = 0) ∧ Hid (Rd wr r (itR restP k s).1 (itR restP k s).2) ∧ Hid (w.grownBy wr (some r))) (fun _ i _ => cnt - (intOf i).toNat)
  case atStart => exact ⟨0, Nat.zero_le _, rfl, ⟨none, 0, 0, rfl, OwS.nil _ _ _ _ _⟩, (fun j hj => by omega), R0.out, but_of_below (Below.refl _ _)⟩
  case round =>
    clear R0
    obtain ⟨k, hk, rfl, ⟨pa, pm, pc, rfl, HO⟩, HJ, HR, HB⟩ := hrel
    by_cases hlt : k < cnt
    · have i0 : (k : Int) < (cnt : Int) := by omega
      have CO : Hid (Calls Try.prog 39 #[.pointer (some ⟨r, 0, none⟩)] wr fun e w' => e = .returned (.int .i64 (itR restP k s).2) ∧ w' = wr) := oCode wr r HR.out
      by_cases h0 : (itR restP k s).2 = 0
      · have HK : Hid (∀ j, j < k + 1 → (itR restP j s).2 = 0) := fun j hj => by
          by_cases e : j < k
          · exact HJ.out j e
          · obtain rfl : j = k := by omega
            exact h0
        have CR : Hid (∀ u, Rd u r (itR restP k s).1 (itR restP k s).2 → Calls Try.prog 74 #[.pointer (some ⟨r, 0, none⟩)] u fun e u' => ∀ X, X = pairR (itR restP k s) → ∃ kp km kc vp vm vc, e = .returned (.agg (List.toArray [.slice kp km kc, .slice vp vm vc])) ∧ elPr5 (fun j => u.heap.size ≤ j) u' X [.slice kp km kc, .slice vp vm vc] ∧ Rd u' r (restP (itR restP k s)).1 (restP (itR restP k s)).2 ∧ u.grownBy u' (some r)) := fun u hu => (oRdP u r hu (ZL.out k)).mono fun e u' hh X hX => by subst hX; exact hh
        have HE : Hid (sevK pairR restP (k + 1) s = sevK pairR restP k s ++ [pairR (itR restP k s)]) := rfl
        have HN : Hid (itR restP (k + 1) s = restP (itR restP k s)) := rfl
        have hlk := sevK_len pairR restP k s
        rw [h0] at CO
        generalize sevK pairR restP k s = L1 at *
        generalize itR restP k s = s1 at *
        obtain ⟨X, hX⟩ : ∃ X, X = pairR s1 := ⟨_, rfl⟩
        have CX : Hid (∀ u, Rd u r s1.1 s1.2 → Calls Try.prog 74 #[.pointer (some ⟨r, 0, none⟩)] u fun e u' => ∃ kp km kc vp vm vc, e = .returned (.agg (List.toArray [.slice kp km kc, .slice vp vm vc])) ∧ elPr5 (fun j => u.heap.size ≤ j) u' X [.slice kp km kc, .slice vp vm vc] ∧ Rd u' r (restP s1).1 (restP s1).2 ∧ u.grownBy u' (some r)) := fun u hu => (CR.out u hu).mono fun e u' hh => hh X hX
        rw [← hX] at HE
        clear CR hX h0 HJ
        go_wp2_with fail
        refine CO.out.mono ?_
        rintro e w2 ⟨rfl, rfl⟩
        go_wp2_with fail
        refine (CX.out _ HR.out).mono ?_
        rintro e v2 ⟨kp, km, kc, vp, vm, vc, rfl, el2, rd2, g2⟩
        have k2 : w.grownBy v2 (some r) := but_trans HB.out g2
        have k3 : w.grownBy (v2.alloc (.cells (List.toArray [.slice kp km kc, .slice vp vm vc]) 44)) (some r) := but_trans k2 (but_of_below (below_alloc _ _))
        have rd3 : Rd (v2.alloc (.cells (List.toArray [.slice kp km kc, .slice vp vm vc]) 44)) r (restP s1).1 (restP s1).2 := rd2.below (below_alloc _ _) (Nat.le_refl _)
        have HO2 : OwS (elPr5 fun j => w.heap.size ≤ j) 2 44 v2 w.heap.size (.slice pa pm pc) L1 := OwS.keep HO.out (elPr5.keep fun j cur f ha hh => g2.block j (Array.getElem?_eq_some_iff.1 hh).1 (fun e => by have := Option.some.inj e; omega)) (fun j hj => g2.block j (HO.out.lt j hj).2 (fun e => by have := Option.some.inj e; have := (HO.out.lt j hj).1; omega))
        have HO3 : Hid (OwS (elPr5 fun j => w.heap.size ≤ j) 2 44 (v2.alloc (.cells (List.toArray [.slice kp km kc, .slice vp vm vc]) 44)) w.heap.size (.slice pa pm pc) L1) := OwS.keep HO2 (elPr5.keep fun j cur f ha hh => (below_alloc v2 _).block j (Array.getElem?_eq_some_iff.1 hh).1) (fun j hj => (below_alloc v2 _).block j (HO2.lt j hj).2)
        have el3 : elPr5 (fun j => w.heap.size ≤ j) (v2.alloc (.cells (List.toArray [.slice kp km kc, .slice vp vm vc]) 44)) X [.slice kp km kc, .slice vp vm vc] := by
          obtain ⟨_, _, _, _, _, _, ee, P1, P2⟩ := el2
          exact ⟨_, _, _, _, _, _, ee, (P1.below (below_alloc _ _)).mono (fun j _ hj => Nat.le_trans HB.out.size hj), (P2.below (below_alloc _ _)).mono (fun j _ hj => Nat.le_trans HB.out.size hj)⟩
        have S3 : Hid (Sl (elPr5 fun j => w.heap.size ≤ j) 2 (fun j => w.heap.size ≤ j) (v2.alloc (.cells (List.toArray [.slice kp km kc, .slice vp vm vc]) 44)) (some ⟨v2.heap.size, 0, none⟩) 1 1 [X]) := Sl.one (Blk.newAt v2 _ _ v2.heap.size rfl _ rfl) (elPr5.row el3) k2.size
        have z3 : w.heap.size ≤ (v2.alloc (.cells (List.toArray [.slice kp km kc, .slice vp vm vc]) 44)).heap.size := k3.size
        have K3 : Hid _ := k3
        have D3 : Hid _ := rd3
        clear CX CO HR HB g2 k2 rd2 HO2 HO el2 el3 rd3 k3 ZL
        go_wp2_with (at_builtin; go_loud (refine wpList_slapp (elPr5 fun j => w.heap.size ≤ j) 2 48 22 44 _ Try.underlying22 infoPr rfl (by decide) (by decide) (v2.alloc (.cells (List.toArray [.slice kp km kc, .slice vp vm vc]) 44)) rfl (.tmp 14) (.tmp 18) rfl w.heap.size (.slice pa pm pc) L1 rfl HO3.out (fun j => w.heap.size ≤ j) (some ⟨v2.heap.size, 0, none⟩) 1 1 [X] rfl S3.out (by rw [hlk]; simp; omega) z3 (fun w' y vs hg hy => elPr5.keep (fun j cur f _ hh => hg.block j (Array.getElem?_eq_some_iff.1 hh).1 (fun e => OwS.not5 HO3.out nePr5 j cur f e.symm hh)) y vs hy) ?_; intro v1 w1 o1 b1; obtain ⟨a1, m1, c1, rfl, hm1⟩ := o1.shape; have kk : Hid (w.grownBy w1 (some r)) := but_app K3.out b1 (fun j hj => (OwS.lt HO3.out j hj).1); have dd : Hid (Rd w1 r (restP s1).1 (restP s1).2) := Rd.app D3.out b1 (fun j hj => by have := (OwS.lt HO3.out j hj).1; omega); have OO : Hid (OwS (elPr5 fun j => w.heap.size ≤ j) 2 44 w1 w.heap.size (.slice a1 m1 c1) (sevK pairR restP (k + 1) s)) := (by show OwS _ _ _ _ _ _ _; rw [HE.out]; exact o1); clear o1 b1))
        go_roundw
        case rel => exact ⟨k + 1, by omega, by go_num, ⟨a1, m1, c1, rfl, OO⟩, HK, by rw [HN.out]; exact dd, kk⟩
        case measure => simp [intOf]; omega
      · have HC : Hid (cntR restP cnt s = k) := cntR_stop restP hk HJ.out (Or.inr h0)
        have b3 : ((itR restP k s).2 == 0) = false := by simp [h0]
        have HF : Hid (OwS (elPr5 fun j => w.heap.size ≤ j) 2 44 wr w.heap.size (.slice pa pm pc) L9 ∧ Rd wr r s9.1 s9.2) := by show _ ∧ _; rw [← (H9.out k HC.out).1, ← (H9.out k HC.out).2]; exact ⟨HO.out, HR.out⟩
        generalize itR restP k s = s1 at *
        clear HC HJ ZL HO H9
        go_wp2_with fail
        refine CO.out.mono ?_
        rintro e w2 ⟨rfl, rfl⟩
        go_wp2_with fail
        go_ret
        exact ⟨pa, pm, pc, rfl, HF.out.1, HF.out.2, HB.out⟩
    · have i0 : ¬ (k : Int) < (cnt : Int) := by omega
      have HC : Hid (cntR restP cnt s = k) := cntR_stop restP hk HJ.out (Or.inl (by omega))
      have HF : Hid (OwS (elPr5 fun j => w.heap.size ≤ j) 2 44 wr w.heap.size (.slice pa pm pc) L9 ∧ Rd wr r s9.1 s9.2) := by show _ ∧ _; rw [← (H9.out k HC.out).1, ← (H9.out k HC.out).2]; exact ⟨HO.out, HR.out⟩
      clear HC HJ ZL HO
      go_wp2_with fail
      go_ret
      exact ⟨pa, pm, pc, rfl, HF.out.1, HF.out.2, HB.out⟩
set_option maxRecDepth 100000 in
set_option maxHeartbeats 4000000 in
theorem oSevK (w : World) (r : Nat) {s : RdS} (h : Rd w r s.1 s.2) (hz : s.1.length ≤ 100000) (cnt : Nat) (hc : cnt ≤ 65535) : Calls Try.prog 75 #[.pointer (some ⟨r, 0, none⟩), .int .u64 (cnt : Int), .func (.func 76) #[] #[]] w fun e w' => ∃ a m c, e = .returned (.slice a m c) ∧ OwS (elKd5 fun j => w.heap.size ≤ j) 3 46 w' w.heap.size (.slice a m c) (sevK kidR restD (cntR restD cnt s) s) ∧ Rd w' r (itR restD (cntR restD cnt s) s).1 (itR restD (cntR restD cnt s) s).2 ∧ w.grownBy w' (some r) := by
  have hr := h.lt
  have hcall := Try.call76
  have ZL : Hid (∀ k, (itR restD k s).1.length ≤ 100000) := itR_len (fun _ => restD_len) hz
  have R0 : Hid (Rd w r (itR restD 0 s).1 (itR restD 0 s).2) := h
  have H9 : Hid (∀ k, cntR restD cnt s = k → sevK kidR restD k s = sevK kidR restD (cntR restD cnt s) s ∧ itR restD k s = itR restD (cntR restD cnt s) s) := fun k hk => by rw [hk]; exact ⟨rfl, rfl⟩
  generalize sevK kidR restD (cntR restD cnt s) s = L9 at *
  generalize itR restD (cntR restD cnt s) s = s9 at *
  clear h hz
  go_enter Try.func75, Try.ntmps75
  go_wp2_with fail
  go_loopw [7, 9] (fun v i wr => ∃ k : Nat, k ≤ cnt ∧ i = .int .u64 (k : Int) ∧ (∃ pa pm pc, v = .slice pa pm pc ∧ Hid (OwS (elKd5 fun j => w.heap.size ≤ j) 3 46 wr w.heap.size (.slice pa pm pc) (sevK kidR restD k s))) ∧ Hid (∀ j, j < k → (itR restD j s).2 = 0) ∧ Hid (Rd wr r (itR restD k s).1 (itR restD k s).2) ∧ Hid (w.grownBy wr (some r))) (fun _ i _ => cnt - (intOf i).toNat)
  case atStart => exact ⟨0, Nat.zero_le _, rfl, ⟨none, 0, 0, rfl, OwS.nil _ _ _ _ _⟩, (fun j hj => by omega), R0.out, but_of_below (Below.refl _ _)⟩
  case round =>
    clear R0
    obtain ⟨k, hk, rfl, ⟨pa, pm, pc, rfl, HO⟩, HJ, HR, HB⟩ := hrel
    by_cases hlt : k < cnt
    · have i0 : (k : Int) < (cnt : Int) := by omega
      have CO : Hid (Calls Try.prog 39 #[.pointer (some ⟨r, 0, none⟩)] wr fun e w' => e = .returned (.int .i64 (itR restD k s).2) ∧ w' = wr) := oCode wr r HR.out
      by_cases h0 : (itR restD k s).2 = 0
      · have HK : Hid (∀ j, j < k + 1 → (itR restD j s).2 = 0) := fun j hj => by
          by_cases e : j < k
          · exact HJ.out j e
          · obtain rfl : j = k := by omega
            exact h0
        have CR : Hid (∀ u, Rd u r (itR restD k s).1 (itR restD k s).2 → Calls Try.prog 76 #[.pointer (some ⟨r, 0, none⟩)] u fun e u' => ∀ X, X = kidR (itR restD k s) → ∃ kp km kc, e = .returned (.agg (List.toArray [.slice kp km kc, .int .i64 X.page, .int .i64 X.epoch])) ∧ elKd5 (fun j => u.heap.size ≤ j) u' X [.slice kp km kc, .int .i64 X.page, .int .i64 X.epoch] ∧ Rd u' r (restD (itR restD k s)).1 (restD (itR restD k s)).2 ∧ u.grownBy u' (some r)) := fun u hu => (oRdK u r hu (ZL.out k)).mono fun e u' hh X hX => by subst hX; exact hh
        have HE : Hid (sevK kidR restD (k + 1) s = sevK kidR restD k s ++ [kidR (itR restD k s)]) := rfl
        have HN : Hid (itR restD (k + 1) s = restD (itR restD k s)) := rfl
        have hlk := sevK_len kidR restD k s
        rw [h0] at CO
        generalize sevK kidR restD k s = L1 at *
        generalize itR restD k s = s1 at *
        obtain ⟨X, hX⟩ : ∃ X, X = kidR s1 := ⟨_, rfl⟩
        have CX : Hid (∀ u, Rd u r s1.1 s1.2 → Calls Try.prog 76 #[.pointer (some ⟨r, 0, none⟩)] u fun e u' => ∃ kp km kc, e = .returned (.agg (List.toArray [.slice kp km kc, .int .i64 X.page, .int .i64 X.epoch])) ∧ elKd5 (fun j => u.heap.size ≤ j) u' X [.slice kp km kc, .int .i64 X.page, .int .i64 X.epoch] ∧ Rd u' r (restD s1).1 (restD s1).2 ∧ u.grownBy u' (some r)) := fun u hu => (CR.out u hu).mono fun e u' hh => hh X hX
        rw [← hX] at HE
        clear CR hX h0 HJ
        go_wp2_with fail
        refine CO.out.mono ?_
        rintro e w2 ⟨rfl, rfl⟩
        go_wp2_with fail
        refine (CX.out _ HR.out).mono ?_
        rintro e v2 ⟨kp, km, kc, rfl, el2, rd2, g2⟩
        have k2 : w.grownBy v2 (some r) := but_trans HB.out g2
        have k3 : w.grownBy (v2.alloc (.cells (List.toArray [.slice kp km kc, .int .i64 X.page, .int .i64 X.epoch]) 46)) (some r) := but_trans k2 (but_of_below (below_alloc _ _))
        have rd3 : Rd (v2.alloc (.cells (List.toArray [.slice kp km kc, .int .i64 X.page, .int .i64 X.epoch]) 46)) r (restD s1).1 (restD s1).2 := rd2.below (below_alloc _ _) (Nat.le_refl _)
        have HO2 : OwS (elKd5 fun j => w.heap.size ≤ j) 3 46 v2 w.heap.size (.slice pa pm pc) L1 := OwS.keep HO.out (elKd5.keep fun j cur f ha hh => g2.block j (Array.getElem?_eq_some_iff.1 hh).1 (fun e => by have := Option.some.inj e; omega)) (fun j hj => g2.block j (HO.out.lt j hj).2 (fun e => by have := Option.some.inj e; have := (HO.out.lt j hj).1; omega))
        have HO3 : Hid (OwS (elKd5 fun j => w.heap.size ≤ j) 3 46 (v2.alloc (.cells (List.toArray [.slice kp km kc, .int .i64 X.page, .int .i64 X.epoch]) 46)) w.heap.size (.slice pa pm pc) L1) := OwS.keep HO2 (elKd5.keep fun j cur f ha hh => (below_alloc v2 _).block j (Array.getElem?_eq_some_iff.1 hh).1) (fun j hj => (below_alloc v2 _).block j (HO2.lt j hj).2)
        have el3 : elKd5 (fun j => w.heap.size ≤ j) (v2.alloc (.cells (List.toArray [.slice kp km kc, .int .i64 X.page, .int .i64 X.epoch]) 46)) X [.slice kp km kc, .int .i64 X.page, .int .i64 X.epoch] := by
          obtain ⟨_, _, _, ee, P1, P2⟩ := el2
          exact ⟨_, _, _, ee, (P1.below (below_alloc _ _)).mono (fun j _ hj => Nat.le_trans HB.out.size hj), P2⟩
        have S3 : Hid (Sl (elKd5 fun j => w.heap.size ≤ j) 3 (fun j => w.heap.size ≤ j) (v2.alloc (.cells (List.toArray [.slice kp km kc, .int .i64 X.page, .int .i64 X.epoch]) 46)) (some ⟨v2.heap.size, 0, none⟩) 1 1 [X]) := Sl.one (Blk.newAt v2 _ _ v2.heap.size rfl _ rfl) (elKd5.row el3) k2.size
        have z3 : w.heap.size ≤ (v2.alloc (.cells (List.toArray [.slice kp km kc, .int .i64 X.page, .int .i64 X.epoch]) 46)).heap.size := k3.size
        have K3 : Hid _ := k3
        have D3 : Hid _ := rd3
        clear CX CO HR HB g2 k2 rd2 HO2 HO el2 el3 rd3 k3 ZL
        go_wp2_with (at_builtin; go_loud (refine wpList_slapp (elKd5 fun j => w.heap.size ≤ j) 3 40 23 46 _ Try.underlying23 infoKd rfl (by decide) (by decide) (v2.alloc (.cells (List.toArray [.slice kp km kc, .int .i64 X.page, .int .i64 X.epoch]) 46)) rfl (.tmp 14) (.tmp 18) rfl w.heap.size (.slice pa pm pc) L1 rfl HO3.out (fun j => w.heap.size ≤ j) (some ⟨v2.heap.size, 0, none⟩) 1 1 [X] rfl S3.out (by rw [hlk]; simp; omega) z3 (fun w' y vs hg hy => elKd5.keep (fun j cur f _ hh => hg.block j (Array.getElem?_eq_some_iff.1 hh).1 (fun e => OwS.not5 HO3.out neKd5 j cur f e.symm hh)) y vs hy) ?_; intro v1 w1 o1 b1; obtain ⟨a1, m1, c1, rfl, hm1⟩ := o1.shape; have kk : Hid (w.grownBy w1 (some r)) := but_app K3.out b1 (fun j hj => (OwS.lt HO3.out j hj).1); have dd : Hid (Rd w1 r (restD s1).1 (restD s1).2) := Rd.app D3.out b1 (fun j hj => by have := (OwS.lt HO3.out j hj).1; omega); have OO : Hid (OwS (elKd5 fun j => w.heap.size ≤ j) 3 46 w1 w.heap.size (.slice a1 m1 c1) (sevK kidR restD (k + 1) s)) := (by show OwS _ _ _ _ _ _ _; rw [HE.out]; exact o1); clear o1 b1))
        go_roundw
        case rel => exact ⟨k + 1, by omega, by go_num, ⟨a1, m1, c1, rfl, OO⟩, HK, by rw [HN.out]; exact dd, kk⟩
        case measure => simp [intOf]; omega
      · have HC : Hid (cntR restD cnt s = k) := cntR_stop restD hk HJ.out (Or.inr h0)
        have b3 : ((itR restD k s).2 == 0) = false := by simp [h0]
        have HF : Hid (OwS (elKd5 fun j => w.heap.size ≤ j) 3 46 wr w.heap.size (.slice pa pm pc) L9 ∧ Rd wr r s9.1 s9.2) := by show _ ∧ _; rw [← (H9.out k HC.out).1, ← (H9.out k HC.out).2]; exact ⟨HO.out, HR.out⟩
        generalize itR restD k s = s1 at *
        clear HC HJ ZL HO H9
        go_wp2_with fail
        refine CO.out.mono ?_
        rintro e w2 ⟨rfl, rfl⟩
        go_wp2_with fail
        go_ret
        exact ⟨pa, pm, pc, rfl, HF.out.1, HF.out.2, HB.out⟩
    · have i0 : ¬ (k : Int) < (cnt : Int) := by omega
      have HC : Hid (cntR restD cnt s = k) := cntR_stop restD hk HJ.out (Or.inl (by omega))
      have HF : Hid (OwS (elKd5 fun j => w.heap.size ≤ j) 3 46 wr w.heap.size (.slice pa pm pc) L9 ∧ Rd wr r s9.1 s9.2) := by show _ ∧ _; rw [← (H9.out k HC.out).1, ← (H9.out k HC.out).2]; exact ⟨HO.out, HR.out⟩
      clear HC HJ ZL HO
      go_wp2_with fail
      go_ret
      exact ⟨pa, pm, pc, rfl, HF.out.1, HF.out.2, HB.out⟩

end Go.Proofs.Ytnmmopneacdgfaa

/-
  The contract of layer 18's program: read: the node that stands in a page. Condition: at most 100000 bytes.
-/
namespace Go.Proofs.Ytnmmopneacdgfaa
open Go.RowKit
set_option linter.unusedVariables false
/-- The node that is read, and what is left. -/
def rdNd (b : List UInt8) : NodeS × RdS := if rV (b, 0) 1 ≤ 1 then (nodR b, nodT b) else (zeroN, ((rN (b, 0) 1).1, 4))
theorem getNd_eq (b : List UInt8) : getNd b = if b.length = 496 then
    (if (if (rdNd b).2.2 = 0 then (if zeroB (rdNd b).2.1 = true then (0 : Int) else 4) else (rdNd b).2.2) = 0 then
      (if chkN (rdNd b).1 = 0 then ((rdNd b).1, 0) else (zeroN, chkN (rdNd b).1))
     else (zeroN, if (rdNd b).2.2 = 0 then (if zeroB (rdNd b).2.1 = true then (0 : Int) else 4) else (rdNd b).2.2)) else (zeroN, 17) := by
  unfold getNd rdNd
  by_cases h0 : b.length = 496
  · rw [if_pos h0, if_pos h0]
    by_cases h1 : rV (b, 0) 1 ≤ 1
    · rw [if_pos h1, if_pos h1]
      dsimp only
      by_cases h2 : (nodT b).2 = 0
      · rw [if_pos h2, if_pos h2]
        by_cases h3 : zeroB (nodT b).1 = true
        · rw [if_pos h3, if_pos h3, if_pos rfl]
        · rw [if_neg h3, if_neg h3, if_neg (by decide)]
      · rw [if_neg h2, if_neg h2, if_neg h2]
    · rw [if_neg h1, if_neg h1]
      rfl
  · rw [if_neg h0, if_neg h0]
theorem sevK_all {α : Type} (one : RdS → α) (nx : RdS → RdS) {p : α → Prop} (h : ∀ s, p (one s)) : ∀ n s, ∀ x ∈ sevK one nx n s, p x
  | 0, _, x, hx => by cases hx
  | n + 1, s, x, hx => by
    unfold sevK at hx
    rcases List.mem_append.1 hx with hx | hx
    · exact sevK_all one nx h n s x hx
    · rw [List.mem_singleton.1 hx]
      exact h _
theorem nodR_lit (b : List UInt8) : Lit (nodR b) := by
  have hc : cntB b ≤ 65535 := rV2 _
  have hP : ∀ s, (pairR s).key.length ≤ 1000 ∧ (pairR s).value.length ≤ 1000 := fun s => ⟨Nat.le_trans (rB_len _ _) (Nat.le_trans (rV1 _) (by decide)), Nat.le_trans (rB_len _ _) (Nat.le_trans (rV1 _) (by decide))⟩
  have hK : ∀ s, (kidR s).key.length ≤ 1000 := fun s => Nat.le_trans (rB_len _ _) (Nat.le_trans (rV1 _) (by decide))
  unfold nodR
  split
  · exact ⟨by show List.length (sevK _ _ _ _) ≤ _; rw [sevK_len]; exact Nat.le_trans (cntR_le _ _ _) (by omega), by simp, sevK_all _ _ hP _ _, by intro x hx; cases hx⟩
  · exact ⟨by simp, by show List.length (sevK _ _ _ _) ≤ _; rw [sevK_len]; exact Nat.le_trans (cntR_le _ _ _) (by omega), (by intro x hx; cases hx), sevK_all _ _ hK _ _⟩
theorem rdNd_lit (b : List UInt8) : Lit (rdNd b).1 := by
  unfold rdNd
  split
  · exact nodR_lit b
  · exact ⟨by simp [zeroN], by simp [zeroN], (by intro x hx; cases hx), by intro x hx; cases hx⟩
theorem rN_code {s : RdS} {k : Int} (h : 0 < rV s k) : (rN s k).2 = 0 := by
  unfold rV rB at h
  unfold rN
  unfold rdBytes at *
  split
  · rename_i h0
    rw [if_pos h0] at h
    exact (Nat.lt_irrefl 0 h).elim
  · rename_i h0
    rw [if_neg h0] at h
    split
    · rename_i h1
      rw [if_pos h1] at h
      exact (Nat.lt_irrefl 0 h).elim
    · rfl
theorem rN_fail (l : List UInt8) {c : Int} (hc : c ≠ 0) (k : Int) : rN (l, c) k = (l, c) ∧ rV (l, c) k = 0 := by
  unfold rN rV rB rdBytes
  dsimp only
  rw [if_pos hc]
  exact ⟨rfl, rfl⟩
theorem neNdPr : 25 ≠ 44 := by decide
theorem neNdKd : 25 ≠ 46 := by decide
theorem OwP5.past {A : Nat → Prop} {e : TypeId} {w w' : World} {base g : Nat} {v : Value} {l : List PairS} {vs : List Value} {t : TypeId} (h : OwS (elPr5 A) 2 e w base v l) (b : Blk w g vs t) (k : w.grownBy w' (some g)) (h5 : t ≠ 5) (he : t ≠ e) : OwS (elPr5 A) 2 e w' base v l :=
  OwS.keep h (elPr5.keep fun j cur f _ hh => k.block j (Array.getElem?_eq_some_iff.1 hh).1 (fun e => by obtain rfl := Option.some.inj e; exact b.not5n h5 hh)) (fun j hj => k.block j (h.lt j hj).2 (fun e' => by
    have ej : j = g := Option.some.inj e'
    rw [ej] at hj
    obtain ⟨cur, hc⟩ := h.type _ hj
    rw [show w.heap[g]? = _ from b] at hc
    simp only [Option.some.injEq, Obj.cells.injEq] at hc
    exact he hc.2.1))
theorem OwD5.past {A : Nat → Prop} {e : TypeId} {w w' : World} {base g : Nat} {v : Value} {l : List KidS} {vs : List Value} {t : TypeId} (h : OwS (elKd5 A) 3 e w base v l) (b : Blk w g vs t) (k : w.grownBy w' (some g)) (h5 : t ≠ 5) (he : t ≠ e) : OwS (elKd5 A) 3 e w' base v l :=
  OwS.keep h (elKd5.keep fun j cur f _ hh => k.block j (Array.getElem?_eq_some_iff.1 hh).1 (fun e => by obtain rfl := Option.some.inj e; exact b.not5n h5 hh)) (fun j hj => k.block j (h.lt j hj).2 (fun e' => by
    have ej : j = g := Option.some.inj e'
    rw [ej] at hj
    obtain ⟨cur, hc⟩ := h.type _ hj
    rw [show w.heap[g]? = _ from b] at hc
    simp only [Option.some.injEq, Obj.cells.injEq] at hc
    exact he hc.2.1))
/-- What read hands back. -/
def GotN (w : World) (r : Nat) (n : NodeS) (t : RdS) (e : Ending) (w' : World) : Prop := ∃ p q, e = .returned (ndv n p q) ∧ Nd (fun j => w.heap.size ≤ j) w' n p q ∧ Rd w' r t.1 t.2 ∧ w.grownBy w' (some r)
theorem OwS.mono5P {e : TypeId} {w : World} {B B' : Nat} {v : Value} {l : List PairS} (h : OwS (elPr5 fun j => B ≤ j) 2 e w B v l) (hB : B' ≤ B) : OwS (elPr5 fun j => B' ≤ j) 2 e w B' v l := by
  obtain ⟨rows, hr, ho⟩ := h
  refine ⟨rows, hr.mono fun x vs ⟨a1, a2, p, m, c, p', m', c', ee, h1, h2⟩ => ⟨a1, a2, p, m, c, p', m', c', ee, h1.mono (fun j _ hj => Nat.le_trans hB hj), h2.mono (fun j _ hj => Nat.le_trans hB hj)⟩, ?_⟩
  obtain ⟨h1, h2⟩ := ho
  refine ⟨h1, ?_⟩
  rcases h2 with h2 | ⟨g, cap, cur, e1, e2, e3⟩
  · exact Or.inl h2
  · exact Or.inr ⟨g, cap, cur, e1, Nat.le_trans hB e2, e3⟩
theorem OwS.mono5K {e : TypeId} {w : World} {B B' : Nat} {v : Value} {l : List KidS} (h : OwS (elKd5 fun j => B ≤ j) 3 e w B v l) (hB : B' ≤ B) : OwS (elKd5 fun j => B' ≤ j) 3 e w B' v l := by
  obtain ⟨rows, hr, ho⟩ := h
  refine ⟨rows, hr.mono fun x vs ⟨a1, a2, p, m, c, ee, h1, h2⟩ => ⟨a1, a2, p, m, c, ee, h1.mono (fun j _ hj => Nat.le_trans hB hj), h2⟩, ?_⟩
  obtain ⟨h1, h2⟩ := ho
  refine ⟨h1, ?_⟩
  rcases h2 with h2 | ⟨g, cap, cur, e1, e2, e3⟩
  · exact Or.inl h2
  · exact Or.inr ⟨g, cap, cur, e1, Nat.le_trans hB e2, e3⟩
set_option maxRecDepth 100000 in
set_option maxHeartbeats 4000000 in
theorem oReadNP (w : World) (r : Nat) {b : List UInt8} (h : Rd w r b 0) (hz : b.length ≤ 100000) (hk : rV (b, 0) 1 = 1) : Calls Try.prog 34 #[.pointer (some ⟨r, 0, none⟩)] w (GotN w r ⟨true, sevK pairR restP (cntR restP (cntB b) (bodyR b)) (bodyR b), []⟩ (itR restP (cntR restP (cntB b) (bodyR b)) (bodyR b))) := by
  have hr := h.lt
  obtain ⟨v0, hv0⟩ : ∃ v0, v0 = w.alloc (.cells #[.bool false, .slice none 0 0, .slice none 0 0] 25) := ⟨_, rfl⟩
  have b0 : Blk v0 w.heap.size [.bool false, .slice none 0 0, .slice none 0 0] 25 := by rw [hv0]; exact Blk.newAt w _ _ w.heap.size rfl _ rfl
  have k0 : Below w.heap.size w v0 := by rw [hv0]; exact below_alloc _ _
  have y0 : w.grownBy v0 (some r) := but_of_below k0
  have rd0 := h.below k0 (Nat.le_refl _)
  have hbr : w.heap.size ≠ r := by omega
  have C1 : Hid (∀ u, Rd u r b 0 → Calls Try.prog 72 #[.pointer (some ⟨r, 0, none⟩), .int .i64 1] u fun e u' => e = .returned (.int .u64 ((1 : Nat) : Int)) ∧ Rd u' r (rN (b, 0) 1).1 (rN (b, 0) 1).2 ∧ u.grownBy u' (some r)) := fun u hu => (oNumber u r hu 1 hz (by decide) (by decide)).mono fun e u' hh => ⟨hh.1.trans (congrArg (fun z : Nat => Ending.returned (.int .u64 (z : Int))) hk), hh.2⟩
  have C2 : Hid (∀ u, Rd u r (rN (b, 0) 1).1 (rN (b, 0) 1).2 → Calls Try.prog 72 #[.pointer (some ⟨r, 0, none⟩), .int .i64 2] u fun e u' => e = .returned (.int .u64 (cntB b : Nat)) ∧ Rd u' r (bodyR b).1 (bodyR b).2 ∧ u.grownBy u' (some r)) := fun u hu => oNumber u r hu 2 (rN_len (s := (b, 0)) hz 1) (by decide) (by decide)
  have hc : cntB b ≤ 65535 := rV2 _
  have CS : Hid (∀ u, Rd u r (bodyR b).1 (bodyR b).2 → Calls Try.prog 73 #[.pointer (some ⟨r, 0, none⟩), .int .u64 (cntB b : Int), .func (.func 74) #[] #[]] u fun e w' => ∃ a m c, e = .returned (.slice a m c) ∧ OwS (elPr5 fun j => u.heap.size ≤ j) 2 44 w' u.heap.size (.slice a m c) (sevK pairR restP (cntR restP (cntB b) (bodyR b)) (bodyR b)) ∧ Rd w' r (itR restP (cntR restP (cntB b) (bodyR b)) (bodyR b)).1 (itR restP (cntR restP (cntB b) (bodyR b)) (bodyR b)).2 ∧ u.grownBy w' (some r)) := fun u hu => oSevP u r hu (rN_len (rN_len (s := (b, 0)) hz 1) 2) (cntB b) hc
  generalize sevK pairR restP (cntR restP (cntB b) (bodyR b)) (bodyR b) = L at *
  generalize itR restP (cntR restP (cntB b) (bodyR b)) (bodyR b) = t at *
  generalize cntB b = cnt at *
  generalize bodyR b = s2 at *
  generalize rN (b, 0) 1 = s1 at *
  clear h hz hk
  go_enter Try.func34, Try.ntmps34
  go_upto_region 1 with fail
  rw [← hv0]
  clear hv0
  go_wp2_with fail
  refine (C1.out v0 rd0).mono ?_
  rintro e v1 ⟨rfl, rd1, g1⟩
  have b1 := b0.turn g1 hbr
  have y1 : w.grownBy v1 (some r) := but_trans y0 g1
  go_wp2_with fail
  refine (C2.out v1 rd1).mono ?_
  rintro e v2 ⟨rfl, rd2, g2⟩
  have b2 := b1.turn g2 hbr
  have y2 : w.grownBy v2 (some r) := but_trans y1 g2
  go_wp2_with fail
  refine (CS.out v2 rd2).mono ?_
  rintro e v3 ⟨a3, m3, c3, rfl, o3, rd3, g3⟩
  have b3 := b2.turn g3 hbr
  have y3 : w.grownBy v3 (some r) := but_trans y2 g3
  have O3 : OwS (elPr5 fun j => w.heap.size ≤ j) 2 44 v3 w.heap.size (.slice a3 m3 c3) L := OwS.mono5P o3 y2.size
  clear o3 rd0 rd1 rd2 b0 b1 b2 y0 y1 y2 k0 C1 C2 CS g1 g2 g3
  go_wp2_with ((with_reducible refine at_st 25 ?_); (refine st' 25 (.tmp 2) (.tmp 22) 3 sizeNd w.heap.size 0 [.bool true, .slice a3 m3 c3, .slice none 0 0] rfl (by intro u hu; simp only [List.mem_cons, List.not_mem_nil, or_false] at hu; rcases hu with rfl | rfl | rfl <;> rfl) (b3.there 0 3 (by simp)) rfl rfl ?_); intro v5 hv5; have b5 : Blk v5 w.heap.size [.bool true, .slice a3 m3 c3, .slice none 0 0] 25 := (by rw [hv5]; exact b3.setsW _ rfl); have g5 : v3.grownBy v5 (some w.heap.size) := (by rw [hv5]; exact but_cells' _ _ _ _); clear hv5)
  have O5 := OwP5.past O3 b3 g5 neNd5 neNdPr
  have rd5 := rd3.but g5 hr
  have y5 : w.grownBy v5 (some r) := but_new y3 g5 (Nat.le_refl _)
  exact bodyPost_ret (v := .agg (List.toArray [.bool true, .slice a3 m3 c3, .slice none 0 0])) (results_cell_row Try.results34 _ _ w.heap.size 25 (List.toArray [.bool true, .slice a3 m3 c3, .slice none 0 0]) (0, 0) _ rfl b5 Try.underlying25 rfl sizeNd) rfl ⟨⟨a3, m3, c3⟩, T0, rfl, ⟨(O5.sl3 (A := fun j => w.heap.size ≤ j) (fun j hj _ => hj)).mono elPr5.elPr (fun _ _ h => h), Sl.nil _ _ _ _⟩, rd5, y5⟩
set_option maxRecDepth 100000 in
set_option maxHeartbeats 4000000 in
theorem oReadNK (w : World) (r : Nat) {b : List UInt8} (h : Rd w r b 0) (hz : b.length ≤ 100000) (hk : rV (b, 0) 1 = 0) : Calls Try.prog 34 #[.pointer (some ⟨r, 0, none⟩)] w (GotN w r ⟨false, [], sevK kidR restD (cntR restD (cntB b) (bodyR b)) (bodyR b)⟩ (itR restD (cntR restD (cntB b) (bodyR b)) (bodyR b))) := by
  have hr := h.lt
  obtain ⟨v0, hv0⟩ : ∃ v0, v0 = w.alloc (.cells #[.bool false, .slice none 0 0, .slice none 0 0] 25) := ⟨_, rfl⟩
  have b0 : Blk v0 w.heap.size [.bool false, .slice none 0 0, .slice none 0 0] 25 := by rw [hv0]; exact Blk.newAt w _ _ w.heap.size rfl _ rfl
  have k0 : Below w.heap.size w v0 := by rw [hv0]; exact below_alloc _ _
  have y0 : w.grownBy v0 (some r) := but_of_below k0
  have rd0 := h.below k0 (Nat.le_refl _)
  have hbr : w.heap.size ≠ r := by omega
  have C1 : Hid (∀ u, Rd u r b 0 → Calls Try.prog 72 #[.pointer (some ⟨r, 0, none⟩), .int .i64 1] u fun e u' => e = .returned (.int .u64 ((0 : Nat) : Int)) ∧ Rd u' r (rN (b, 0) 1).1 (rN (b, 0) 1).2 ∧ u.grownBy u' (some r)) := fun u hu => (oNumber u r hu 1 hz (by decide) (by decide)).mono fun e u' hh => ⟨hh.1.trans (congrArg (fun z : Nat => Ending.returned (.int .u64 (z : Int))) hk), hh.2⟩
  have C2 : Hid (∀ u, Rd u r (rN (b, 0) 1).1 (rN (b, 0) 1).2 → Calls Try.prog 72 #[.pointer (some ⟨r, 0, none⟩), .int .i64 2] u fun e u' => e = .returned (.int .u64 (cntB b : Nat)) ∧ Rd u' r (bodyR b).1 (bodyR b).2 ∧ u.grownBy u' (some r)) := fun u hu => oNumber u r hu 2 (rN_len (s := (b, 0)) hz 1) (by decide) (by decide)
  have hc : cntB b ≤ 65535 := rV2 _
  have CS : Hid (∀ u, Rd u r (bodyR b).1 (bodyR b).2 → Calls Try.prog 75 #[.pointer (some ⟨r, 0, none⟩), .int .u64 (cntB b : Int), .func (.func 76) #[] #[]] u fun e w' => ∃ a m c, e = .returned (.slice a m c) ∧ OwS (elKd5 fun j => u.heap.size ≤ j) 3 46 w' u.heap.size (.slice a m c) (sevK kidR restD (cntR restD (cntB b) (bodyR b)) (bodyR b)) ∧ Rd w' r (itR restD (cntR restD (cntB b) (bodyR b)) (bodyR b)).1 (itR restD (cntR restD (cntB b) (bodyR b)) (bodyR b)).2 ∧ u.grownBy w' (some r)) := fun u hu => oSevK u r hu (rN_len (rN_len (s := (b, 0)) hz 1) 2) (cntB b) hc
  generalize sevK kidR restD (cntR restD (cntB b) (bodyR b)) (bodyR b) = L at *
  generalize itR restD (cntR restD (cntB b) (bodyR b)) (bodyR b) = t at *
  generalize cntB b = cnt at *
  generalize bodyR b = s2 at *
  generalize rN (b, 0) 1 = s1 at *
  clear h hz hk
  go_enter Try.func34, Try.ntmps34
  go_upto_region 1 with fail
  rw [← hv0]
  clear hv0
  go_wp2_with fail
  refine (C1.out v0 rd0).mono ?_
  rintro e v1 ⟨rfl, rd1, g1⟩
  have b1 := b0.turn g1 hbr
  have y1 : w.grownBy v1 (some r) := but_trans y0 g1
  go_wp2_with fail
  refine (C2.out v1 rd1).mono ?_
  rintro e v2 ⟨rfl, rd2, g2⟩
  have b2 := b1.turn g2 hbr
  have y2 : w.grownBy v2 (some r) := but_trans y1 g2
  go_wp2_with fail
  refine (CS.out v2 rd2).mono ?_
  rintro e v3 ⟨a3, m3, c3, rfl, o3, rd3, g3⟩
  have b3 := b2.turn g3 hbr
  have y3 : w.grownBy v3 (some r) := but_trans y2 g3
  have O3 : OwS (elKd5 fun j => w.heap.size ≤ j) 3 46 v3 w.heap.size (.slice a3 m3 c3) L := OwS.mono5K o3 y2.size
  clear o3 rd0 rd1 rd2 b0 b1 b2 y0 y1 y2 k0 C1 C2 CS g1 g2 g3
  go_wp2_with ((with_reducible refine at_st 25 ?_); (refine st' 25 (.tmp 2) (.tmp 26) 3 sizeNd w.heap.size 0 [.bool false, .slice none 0 0, .slice a3 m3 c3] rfl (by intro u hu; simp only [List.mem_cons, List.not_mem_nil, or_false] at hu; rcases hu with rfl | rfl | rfl <;> rfl) (b3.there 0 3 (by simp)) rfl rfl ?_); intro v5 hv5; have b5 : Blk v5 w.heap.size [.bool false, .slice none 0 0, .slice a3 m3 c3] 25 := (by rw [hv5]; exact b3.setsW _ rfl); have g5 : v3.grownBy v5 (some w.heap.size) := (by rw [hv5]; exact but_cells' _ _ _ _); clear hv5)
  have O5 := OwD5.past O3 b3 g5 neNd5 neNdKd
  have rd5 := rd3.but g5 hr
  have y5 : w.grownBy v5 (some r) := but_new y3 g5 (Nat.le_refl _)
  exact bodyPost_ret (v := .agg (List.toArray [.bool false, .slice none 0 0, .slice a3 m3 c3])) (results_cell_row Try.results34 _ _ w.heap.size 25 (List.toArray [.bool false, .slice none 0 0, .slice a3 m3 c3]) (0, 0) _ rfl b5 Try.underlying25 rfl sizeNd) rfl ⟨T0, ⟨a3, m3, c3⟩, rfl, ⟨Sl.nil _ _ _ _, (O5.sl3 (A := fun j => w.heap.size ≤ j) (fun j hj _ => hj)).mono elKd5.elKd (fun _ _ h => h)⟩, rd5, y5⟩
set_option maxRecDepth 100000 in
set_option maxHeartbeats 4000000 in
theorem oReadNF (w : World) (r : Nat) {b : List UInt8} (h : Rd w r b 0) (hz : b.length ≤ 100000) (hk : 1 < rV (b, 0) 1) : Calls Try.prog 34 #[.pointer (some ⟨r, 0, none⟩)] w (GotN w r zeroN ((rN (b, 0) 1).1, 4)) := by
  have hr := h.lt
  obtain ⟨v0, hv0⟩ : ∃ v0, v0 = w.alloc (.cells #[.bool false, .slice none 0 0, .slice none 0 0] 25) := ⟨_, rfl⟩
  have b0 : Blk v0 w.heap.size [.bool false, .slice none 0 0, .slice none 0 0] 25 := by rw [hv0]; exact Blk.newAt w _ _ w.heap.size rfl _ rfl
  have k0 : Below w.heap.size w v0 := by rw [hv0]; exact below_alloc _ _
  have y0 : w.grownBy v0 (some r) := but_of_below k0
  have rd0 := h.below k0 (Nat.le_refl _)
  have hbr : w.heap.size ≠ r := by omega
  have h255 := rV1 (b, 0)
  have hz1 := rN_len (s := (b, 0)) hz 1
  have C1 : Hid (∀ u, Rd u r b 0 → Calls Try.prog 72 #[.pointer (some ⟨r, 0, none⟩), .int .i64 1] u fun e u' => e = .returned (.int .u64 (rV (b, 0) 1 : Nat)) ∧ Rd u' r (rN (b, 0) 1).1 0 ∧ u.grownBy u' (some r)) := fun u hu => (oNumber u r hu 1 hz (by decide) (by decide)).mono fun e u' hh => ⟨hh.1, by have := hh.2.1; rwa [show (rdBytes b 0 1).2.1 = 0 from rN_code (s := (b, 0)) (k := 1) (by omega)] at this, hh.2.2⟩
  obtain ⟨kd, hkd⟩ : ∃ kd, kd = rV (b, 0) 1 := ⟨_, rfl⟩
  rw [← hkd] at C1 hk h255
  clear hkd
  generalize (rN (b, 0) 1).1 = s1 at *
  have CF : Hid (∀ u, Rd u r s1 0 → Calls Try.prog 38 #[.pointer (some ⟨r, 0, none⟩), .int .i64 4] u fun e u' => e = .returned (.tuple #[]) ∧ Rd u' r s1 4 ∧ u.grownBy u' (some r)) := fun u hu => oFail u r hu 4
  have C2 : Hid (∀ u, Rd u r s1 4 → Calls Try.prog 72 #[.pointer (some ⟨r, 0, none⟩), .int .i64 2] u fun e u' => e = .returned (.int .u64 0) ∧ Rd u' r s1 4 ∧ u.grownBy u' (some r)) := fun u hu => by
    have hh := oNumber u r hu 2 hz1 (by decide) (by decide)
    have he := rN_fail s1 (show (4 : Int) ≠ 0 from by decide) 2
    refine hh.mono ?_
    rintro e u' ⟨e1, e2, e3⟩
    have e4 : rN (s1, 4) 2 = (s1, 4) := he.1
    refine ⟨e1.trans ?_, ?_, e3⟩
    · have e5 : rV (s1, 4) 2 = 0 := he.2
      unfold rV rB at e5
      dsimp only at e5
      rw [e5]
      rfl
    · have := e2
      unfold rN at e4
      have e6 := congrArg Prod.fst e4
      have e7 := congrArg Prod.snd e4
      dsimp only at e6 e7
      rw [e6, e7] at this
      exact this
  have CS : Hid (∀ u, Rd u r s1 4 → Calls Try.prog 75 #[.pointer (some ⟨r, 0, none⟩), .int .u64 0, .func (.func 76) #[] #[]] u fun e w' => ∃ a m c, e = .returned (.slice a m c) ∧ OwS (elKd5 fun j => u.heap.size ≤ j) 3 46 w' u.heap.size (.slice a m c) [] ∧ Rd w' r s1 4 ∧ u.grownBy w' (some r)) := fun u hu => oSevK u r (s := (s1, 4)) hu hz1 0 (by omega)
  clear h hz hz1
  obtain ⟨ki, hki⟩ : ∃ ki : Int, ki = (kd : Int) := ⟨_, rfl⟩
  rw [← hki] at C1
  have n0 : (ki == 0) = false := by simp; omega
  have n1 : (ki == 1) = false := by simp; omega
  have p0 : ¬ ki = 0 := by omega
  have p1 : ¬ ki = 1 := by omega
  have m0 : (ki != 0) = true := by simp; omega
  have m1 : (ki != 1) = true := by simp; omega
  clear hk h255 hki
  go_enter Try.func34, Try.ntmps34
  go_upto_region 1 with fail
  rw [← hv0]
  clear hv0
  go_wp2_with fail
  refine (C1.out v0 rd0).mono ?_
  rintro e v1 ⟨rfl, rd1, g1⟩
  have b1 := b0.turn g1 hbr
  have y1 : w.grownBy v1 (some r) := but_trans y0 g1
  go_wp2_with fail
  refine (CF.out v1 rd1).mono ?_
  rintro e v2 ⟨rfl, rd2, g2⟩
  have b2 := b1.turn g2 hbr
  have y2 : w.grownBy v2 (some r) := but_trans y1 g2
  go_wp2_with fail
  refine (C2.out v2 rd2).mono ?_
  rintro e v3 ⟨rfl, rd3, g3⟩
  have b3 := b2.turn g3 hbr
  have y3 : w.grownBy v3 (some r) := but_trans y2 g3
  go_wp2_with fail
  refine (CS.out v3 rd3).mono ?_
  rintro e v4 ⟨a3, m3, c3, rfl, o4, rd4, g4⟩
  have b4 := b3.turn g4 hbr
  have y4 : w.grownBy v4 (some r) := but_trans y3 g4
  have O4 : OwS (elKd5 fun j => w.heap.size ≤ j) 3 46 v4 w.heap.size (.slice a3 m3 c3) [] := OwS.mono5K o4 y3.size
  clear o4 rd0 rd1 rd2 rd3 b0 b1 b2 b3 y0 y1 y2 y3 k0 C1 C2 CF CS g1 g2 g3 g4
  go_wp2_with ((with_reducible refine at_st 25 ?_); (refine st' 25 (.tmp 2) (.tmp 26) 3 sizeNd w.heap.size 0 [.bool false, .slice none 0 0, .slice a3 m3 c3] rfl (by intro u hu; simp only [List.mem_cons, List.not_mem_nil, or_false] at hu; rcases hu with rfl | rfl | rfl <;> rfl) (b4.there 0 3 (by simp)) rfl rfl ?_); intro v5 hv5; have b5 : Blk v5 w.heap.size [.bool false, .slice none 0 0, .slice a3 m3 c3] 25 := (by rw [hv5]; exact b4.setsW _ rfl); have g5 : v4.grownBy v5 (some w.heap.size) := (by rw [hv5]; exact but_cells' _ _ _ _); clear hv5)
  have O5 := OwD5.past O4 b4 g5 neNd5 neNdKd
  have rd5 := rd4.but g5 hr
  have y5 : w.grownBy v5 (some r) := but_new y4 g5 (Nat.le_refl _)
  exact bodyPost_ret (v := .agg (List.toArray [.bool false, .slice none 0 0, .slice a3 m3 c3])) (results_cell_row Try.results34 _ _ w.heap.size 25 (List.toArray [.bool false, .slice none 0 0, .slice a3 m3 c3]) (0, 0) _ rfl b5 Try.underlying25 rfl sizeNd) rfl ⟨T0, ⟨a3, m3, c3⟩, rfl, ⟨Sl.nil _ _ _ _, (O5.sl3 (A := fun j => w.heap.size ≤ j) (fun j hj _ => hj)).mono elKd5.elKd (fun _ _ h => h)⟩, rd5, y5⟩
theorem oReadN (w : World) (r : Nat) {b : List UInt8} (h : Rd w r b 0) (hz : b.length ≤ 100000) : Calls Try.prog 34 #[.pointer (some ⟨r, 0, none⟩)] w (GotN w r (rdNd b).1 (rdNd b).2) := by
  unfold rdNd
  by_cases h1 : rV (b, 0) 1 ≤ 1
  · rw [if_pos h1]
    unfold nodR nodT leafR
    dsimp only
    by_cases h2 : rV (b, 0) 1 = 1
    · rw [decide_eq_true h2, if_pos rfl, if_pos rfl]
      exact oReadNP w r h hz h2
    · rw [decide_eq_false h2, if_neg (by simp), if_neg (by simp)]
      exact oReadNK w r h hz (by omega)
  · rw [if_neg h1]
    exact oReadNF w r h hz (by omega)

end Go.Proofs.Ytnmmopneacdgfaa

/-
  Contracts of layer 18's program: sizes, keys, what is wrong with a pair or a kid. Condition: keys and values of at most a thousand bytes, at most a hundred thousand things.
-/
namespace Go.Proofs.Ytnmmopneacdgfaa
open Go.RowKit
set_option linter.unusedVariables false
set_option maxRecDepth 100000 in
set_option maxHeartbeats 4000000 in
theorem oSzP (w : World) {A : Nat → Prop} {x : PairS} {vs : List Value} (h : elPr A w x vs) (hk : x.key.length ≤ 1000 ∧ x.value.length ≤ 1000) : Calls Try.prog 54 #[.agg vs.toArray] w fun e w' => e = .returned (.int .i64 (psz x : Nat)) ∧ Below w.heap.size w w' := by
  obtain ⟨kp, km, kc, vp, vm, vc, rfl, hB1, hB2⟩ := h
  have e1 : x.key.length = km := hB1.1.len
  have e2 : x.value.length = vm := hB2.1.len
  have e3 : psz x = 2 + km + vm := by unfold psz; omega
  have d1 : IntKind.i64.wrap ((2 : Int) + (km : Int)) = ((2 + km : Nat) : Int) := by rw [IntKind.wrap_i64]; omega
  have d2 : IntKind.i64.wrap (((2 + km : Nat) : Int) + (vm : Int)) = ((2 + km + vm : Nat) : Int) := by rw [IntKind.wrap_i64]; omega
  rw [e3]
  clear hB1 hB2 e3
  go_enter Try.func54, Try.ntmps54
  go_wp2_with fail
  go_ret
  exact ⟨ret_int (by omega), below_alloc _ _⟩
set_option maxRecDepth 100000 in
set_option maxHeartbeats 4000000 in
theorem oSzK (w : World) {A : Nat → Prop} {x : KidS} {vs : List Value} (h : elKd A w x vs) (hk : x.key.length ≤ 1000) : Calls Try.prog 56 #[.agg vs.toArray] w fun e w' => e = .returned (.int .i64 (ksz x : Nat)) ∧ Below w.heap.size w w' := by
  obtain ⟨kp, km, kc, rfl, hB1, hp6, he6⟩ := h
  have e1 : x.key.length = km := hB1.1.len
  have e3 : ksz x = 11 + km := by unfold ksz; omega
  have d1 : IntKind.i64.wrap ((11 : Int) + (km : Int)) = ((11 + km : Nat) : Int) := by rw [IntKind.wrap_i64]; omega
  rw [e3]
  clear hB1 e3
  go_enter Try.func56, Try.ntmps56
  go_wp2_with fail
  go_ret
  exact ⟨ret_int (by omega), below_alloc _ _⟩
set_option maxRecDepth 100000 in
set_option maxHeartbeats 4000000 in
theorem oWithinN (w : World) (x b : Int) (r : Bool) (hr : r = decide (0 ≤ x ∧ x ≤ b)) : Calls Try.prog 79 #[.int .i64 x, .int .i64 b] w fun e w' => e = .returned (.bool r) ∧ w' = w := by
  subst hr
  by_cases h1 : 0 ≤ x
  · by_cases h2 : x ≤ b
    · rw [decide_eq_true ⟨h1, h2⟩]
      have b1 : (0 : Int) ≤ x := h1
      go_enter Try.func79, Try.ntmps79
      go_wp2_with fail
      go_ret
      exact ⟨by simp, rfl⟩
    · rw [decide_eq_false (fun h => h2 h.2)]
      have b1 : (0 : Int) ≤ x := h1
      go_enter Try.func79, Try.ntmps79
      go_wp2_with fail
      go_ret
      exact ⟨ret_bool (by simp), rfl⟩
  · rw [decide_eq_false (fun h => h1 h.1)]
    go_enter Try.func79, Try.ntmps79
    go_wp2_with fail
    go_ret
    exact ⟨rfl, rfl⟩
set_option maxRecDepth 100000 in
set_option maxHeartbeats 4000000 in
theorem oChP (w : World) {A : Nat → Prop} {x : PairS} {vs : List Value} (h : elPr A w x vs) : Calls Try.prog 44 #[.agg vs.toArray] w fun e w' => e = .returned (.int .i64 (chkP x)) ∧ Below w.heap.size w w' := by
  obtain ⟨kp, km, kc, vp, vm, vc, rfl, hB1, hB2⟩ := h
  have e1 : x.key.length = km := hB1.1.len
  have e2 : x.value.length = vm := hB2.1.len
  unfold chkP
  rw [e1, e2]
  clear hB1 hB2
  by_cases h1 : 64 < km
  · rw [if_pos (Or.inl h1)]
    have b1 : (64 : Int) < (km : Int) := by omega
    go_enter Try.func44, Try.ntmps44
    go_wp2_with fail
    go_ret
    exact ⟨rfl, below_alloc _ _⟩
  · have b1 : ¬ (64 : Int) < (km : Int) := by omega
    by_cases h2 : 160 < vm
    · rw [if_pos (Or.inr h2)]
      have b2 : (160 : Int) < (vm : Int) := by omega
      go_enter Try.func44, Try.ntmps44
      go_wp2_with fail
      go_ret
      exact ⟨rfl, below_alloc _ _⟩
    · rw [if_neg (by omega)]
      have b2 : ¬ (160 : Int) < (vm : Int) := by omega
      go_enter Try.func44, Try.ntmps44
      go_wp2_with fail
      go_ret
      exact ⟨rfl, below_alloc _ _⟩
set_option maxRecDepth 100000 in
set_option maxHeartbeats 4000000 in
theorem oChK (w : World) {A : Nat → Prop} {x : KidS} {vs : List Value} (h : elKd A w x vs) : Calls Try.prog 46 #[.agg vs.toArray] w fun e w' => e = .returned (.int .i64 (chkD x)) ∧ Below w.heap.size w w' := by
  obtain ⟨kp, km, kc, rfl, hB1, hp6, he6⟩ := h
  have e1 : x.key.length = km := hB1.1.len
  unfold chkD
  rw [e1]
  clear hB1
  generalize x.page = pg at *
  generalize x.epoch = ep at *
  by_cases h1 : 64 < km
  · rw [if_pos h1]
    have b1 : (64 : Int) < (km : Int) := by omega
    go_enter Try.func46, Try.ntmps46
    go_wp2_with fail
    go_ret
    exact ⟨rfl, below_alloc _ _⟩
  · have b1 : ¬ (64 : Int) < (km : Int) := by omega
    rw [if_neg h1]
    by_cases h2 : 0 ≤ pg ∧ pg ≤ 4095
    · have C1 : Hid (∀ w, Calls Try.prog 79 #[.int .i64 pg, .int .i64 4095] w fun e w' => e = .returned (.bool true) ∧ w' = w) := fun w => oWithinN w pg 4095 true (decide_eq_true h2).symm
      by_cases h3 : 0 ≤ ep ∧ ep ≤ 1099511627776
      · have C2 : Hid (∀ w, Calls Try.prog 79 #[.int .i64 ep, .int .i64 1099511627776] w fun e w' => e = .returned (.bool true) ∧ w' = w) := fun w => oWithinN w ep 1099511627776 true (decide_eq_true h3).symm
        rw [if_pos ⟨h2.1, h2.2, h3⟩]
        clear h2 h3
        go_enter Try.func46, Try.ntmps46
        go_wp2_with fail
        refine (C1.out _).mono ?_
        rintro e w1 ⟨rfl, rfl⟩
        go_wp2_with fail
        refine (C2.out _).mono ?_
        rintro e w2 ⟨rfl, rfl⟩
        go_wp2_with fail
        go_ret
        exact ⟨rfl, below_alloc _ _⟩
      · have C2 : Hid (∀ w, Calls Try.prog 79 #[.int .i64 ep, .int .i64 1099511627776] w fun e w' => e = .returned (.bool false) ∧ w' = w) := fun w => oWithinN w ep 1099511627776 false (decide_eq_false h3).symm
        rw [if_neg (fun h => h3 h.2.2)]
        clear h2 h3
        go_enter Try.func46, Try.ntmps46
        go_wp2_with fail
        refine (C1.out _).mono ?_
        rintro e w1 ⟨rfl, rfl⟩
        go_wp2_with fail
        refine (C2.out _).mono ?_
        rintro e w2 ⟨rfl, rfl⟩
        go_wp2_with fail
        go_ret
        exact ⟨rfl, below_alloc _ _⟩
    · have C1 : Hid (∀ w, Calls Try.prog 79 #[.int .i64 pg, .int .i64 4095] w fun e w' => e = .returned (.bool false) ∧ w' = w) := fun w => oWithinN w pg 4095 false (decide_eq_false h2).symm
      rw [if_neg (fun h => h2 ⟨h.1, h.2.1⟩)]
      clear h2
      go_enter Try.func46, Try.ntmps46
      go_wp2_with fail
      refine (C1.out _).mono ?_
      rintro e w1 ⟨rfl, rfl⟩
      go_wp2_with fail
      go_ret
      exact ⟨rfl, below_alloc _ _⟩
end Go.Proofs.Ytnmmopneacdgfaa
