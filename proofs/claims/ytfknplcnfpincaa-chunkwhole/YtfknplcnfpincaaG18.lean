/-
  6 texts in one. No statement of the seat is proved here.
-/
import Derived.Test.YtfknplcnfpincaaG17

/-
  'make' of a slice whose elements' cells are all alike: a block of them. No condition; no statement of the seat is proved here.
-/
namespace Go.Proofs.Ytfknplcnfpincaa
open Go.RowKit

theorem cs_take (l : List UInt8) (k : Nat) : (cs l).take k = cs (l.take k) := by simp [cs]
theorem cs_drop (l : List UInt8) (k : Nat) : (cs l).drop k = cs (l.drop k) := by simp [cs]

theorem toList_madeCells_rep (sz : Nat) (z : Value) (n : Nat) (h : 0 < sz) : (madeCells (Array.replicate sz z) n).toList = List.replicate n z := by
  apply List.ext_getElem?
  intro j
  by_cases hj : j < n
  · have hm : j % sz < sz := Nat.mod_lt _ h
    simp [madeCells, hj, hm]
  · simp [madeCells, hj]
/-- 'make([]E, n)': a block of noughts. -/
theorem wpList_mkB {ops : Array Oper} {rest : List Oper} {o : Oper} {a : Act} {Q : Exit → Act → World → Prop} (w : World) (T e : TypeId) (z zz : Value) (sz by_ : Nat) (hT : Try.prog.underlying T = some (.slice e)) (hi : (Try.prog.info? e).map (fun i => (i.zero, i.size, i.bytes)) = some (some z, sz, by_)) (hz : z.cells = Array.replicate sz zz) (hsz : 0 < sz) (hby : by_ ≤ 1000)
    (hgd : o.guard = none) (l c : Operand) (ho : o.op = Op.makeSlice T l c) (n : Nat) (hl : a.eval l = .int .i64 (n : Int)) (hc : a.eval c = .int .i64 (n : Int)) (hn : n ≤ 1000000)
    (h : ∀ w', Blk w' w.heap.size (List.replicate (n * sz) zz) e → Below w.heap.size w w' → wpList Try.prog ops Q rest (a.put o.dst (.slice (some ⟨w.heap.size, 0, none⟩) n n)) w') : wpList Try.prog ops Q (o :: rest) a w := by
  obtain ⟨i0, hi, hz0, hz1, hz2⟩ := info_parts hi
  refine wpList_make_full w hgd l c T ho w.heap.size e i0 z sz hT hi hz0 hz1 .i64 .i64 (n : Int) (n : Int) n hl hc rfl rfl (by rw [hz2]; have := Nat.mul_le_mul hby hn; omega) (by unfold maxLen; omega) (Nat.le_refl _) ?_
  intro w' ho' hg
  rw [hz, toList_madeCells_rep sz zz _ hsz] at ho'
  refine h w' ?_ ((Below.refl _ _).grown hg (Nat.le_refl _) (by simp))
  obtain ⟨h1, h2⟩ := ho'
  rcases h2 with ⟨h2, _⟩ | ⟨g', cap, cur, hv, _, hh, _, _, hcs, ht⟩
  · simp at h2
  · simp only [Value.slice.injEq, Option.some.injEq, Addr.mk.injEq] at hv
    obtain ⟨⟨rfl, _, _⟩, _, rfl⟩ := hv
    unfold Blk
    rw [hh, ← ht, List.take_of_length_le (by rw [Array.length_toList]; omega)]


end Go.Proofs.Ytfknplcnfpincaa

/-
  Memory of an object: what was new, or was there ('Next'); what was not written stays ('BA.after'). No condition; no statement of the seat is proved here.
-/
namespace Go.Proofs.Ytfknplcnfpincaa
open Go.RowKit

/-- What was new, or was there. -/
def Next (w : World) (P P' : Nat → Prop) : Prop := ∀ j, P' j → P j ∨ w.heap.size ≤ j
theorem Next.of {w w1 : World} {P P' : Nat → Prop} (h : Next w1 P P') (hs : w.heap.size ≤ w1.heap.size) : Next w P P' := fun j hj => (h j hj).imp id fun h => Nat.le_trans hs h
theorem Kp.newer {F G : Nat → Prop} {w a b : World} (h : Kp F w a) (k : Kp G a b) (hG : ∀ j, G j → w.heap.size ≤ j) : Kp F w b :=
  ⟨k.os.trans h.os, k.tape.trans h.tape, k.output.trans h.output, Nat.le_trans h.size k.size, fun i hi hn => (k.block i (Nat.lt_of_lt_of_le hi h.size) (fun hg => by have := hG i hg; omega)).trans (h.block i hi hn)⟩
/-- What was not written stays, and is not written from then on. -/
theorem BA.after {F F' : Nat → Prop} {w w' : World} {p : Option Addr} {m q : Nat} {b : List UInt8} (h : BA (fun j => ¬ F j) w p m q b) (k : Kp F w w') (n : Next w F F') : BA (fun j => ¬ F' j) w' p m q b := by
  have h1 : BA (fun j => ¬ F j ∧ j < w.heap.size) w p m q b := h.mono fun j hj ha => ⟨ha, hj⟩
  refine (h1.keep k.size fun j hj ha => k.block j hj ha.1).mono fun j _ ha hF => ?_
  rcases n j hF with h | h
  · exact ha.1 h
  · have := ha.2
    omega
theorem BA.grow {A : Nat → Prop} {w w' : World} {p : Option Addr} {m q : Nat} {b : List UInt8} (h : BA A w p m q b) (k : Below w.heap.size w w') : BA A w' p m q b := h.keep k.size fun j hj _ => k.block j hj

end Go.Proofs.Ytfknplcnfpincaa

/-
  The contract of layer 13's program's Seal. Conditions: a text of at most 2000 bytes, what it is of at most 60; a book that is not too long.
-/
namespace Go.Proofs.Ytfknplcnfpincaa
open Go.RowKit
set_option linter.unusedVariables false

/-- 'b[i:j]' of bytes that lie in A. -/
theorem BA.cut2 {w0 : World} {a : Option Addr} {n c : Nat} {l : List UInt8} (h : Bs w0 a n c l) (i j : Nat) (hij : i ≤ j) (hj : j ≤ n) :
    ∃ a' c', (∀ w, Sem.run Try.prog (Instr.slice 22 (.slice a n c) (some (.int .i64 (i : Int))) (some (.int .i64 (j : Int))) none) w = .ok (.slice a' (j - i) c') w) ∧
      (∀ A w, BA A w a n c l → BA A w a' (j - i) c' ((l.drop i).take (j - i))) := by
  have hcap := h.cap
  refine ⟨if c = i then a else a.map (fun x => x.add (i * 1)), c - i, ?_, ?_⟩
  · intro w
    rw [run_slice_lh w 22 a n c under23 .i64 .i64 (i : Int) (j : Int) (by omega) (by omega) (by omega), sizeOf5]
    simp only [Result.andThen, sliced, Int.toNat_natCast]
  · rintro A w ⟨hb, hA⟩
    refine ⟨⟨by simp [hb.len]; omega, by omega, Nat.le_trans (Nat.sub_le _ _) hb.2.2.1, ?_, ?_⟩, fun hm => ?_⟩
    · intro he
      by_cases hck : c = i
      · omega
      · rw [if_neg hck] at he
        simp at he
        have := hb.2.2.2.1 he
        omega
    · intro k hk
      obtain ⟨b, o, ha, hc⟩ := hb.2.2.2.2 (i + k) (by omega)
      subst ha
      refine ⟨b, o + i, ?_, ?_⟩
      · rw [if_neg (by omega)]
        simp only [Option.map_some, Nat.mul_one]
        exact congrArg some (add_none b o i)
      · rw [bt_take hk, bt_drop, show o + i + k = o + (i + k) from by omega]
        exact hc
    · obtain ⟨x, hx, hAx, hlt⟩ := hA (by omega)
      obtain ⟨b, o, ha, hc⟩ := hb.2.2.2.2 i (by omega)
      rw [hx] at ha
      obtain rfl := Option.some.inj ha
      subst hx
      refine ⟨⟨b, o + i, none⟩, ?_, hAx, hlt⟩
      rw [if_neg (by omega)]
      simp only [Option.map_some, Nat.mul_one]
      exact congrArg some (add_none b o i)
/-- 'make([][]byte, n)'. -/
theorem OwB.made {A : Nat → Prop} {w : World} {g base n : Nat} {e : TypeId} (h : Blk w g (List.replicate n (.slice none 0 0)) e) (hb : base ≤ g) (hn : n ≤ 1000000) : OwS (elB A) 1 e w base (.slice (some ⟨g, 0, none⟩) n n) (List.replicate n []) := by
  have hf : ∀ n : Nat, (List.replicate n [(.slice none 0 0 : Value)]).flatten = List.replicate n (.slice none 0 0) := fun n => by
    induction n with
    | zero => rfl
    | succ n ih => rw [List.replicate_succ, List.flatten_cons, ih, List.replicate_succ]; rfl
  have hr : ∀ n : Nat, Rel2 (Row (elB A) 1 w) (List.replicate n []) (List.replicate n [(.slice none 0 0 : Value)]) := fun n => by
    induction n with
    | zero => exact trivial
    | succ n ih =>
      rw [List.replicate_succ, List.replicate_succ]
      exact ⟨⟨rfl, by intro v hv; simp at hv; subst hv; rfl, none, 0, 0, rfl, B5.nil A w⟩, ih⟩
  refine ⟨List.replicate n [.slice none 0 0], hr n, ?_⟩
  rw [hf, List.length_replicate]
  refine ⟨by rw [List.length_replicate, Nat.mul_one], Or.inr ⟨g, n, (List.replicate n (Value.slice none 0 0)).toArray, rfl, hb, h, Nat.le_refl _, by unfold maxLen; omega, by simp, ?_⟩⟩
  rw [List.take_of_length_le (by simp)]
theorem OwB.kp {A F : Nat → Prop} {e : TypeId} {w w' : World} {base : Nat} {v : Value} {l : List (List UInt8)} (h : OwS (elB A) 1 e w base v l) (k : Kp F w w') (hF : ∀ j, F j → j < base) (hA : ∀ j, A j → ¬ F j) : OwS (elB A) 1 e w' base v l :=
  h.keep (elB.keep fun j hj ha => k.block j hj (hA j ha)) (fun j hj => k.block j (h.lt j hj).2 fun hf => by have := (h.lt j hj).1; have := hF j hf; omega)
theorem chB_set (S : SeaS) (k what t : List UInt8) {c j : Nat} (h : j < c) : (chB S k what t c j ++ List.replicate (c - j) []).set j (pad (chM S k what t c j)) = chB S k what t c (j + 1) ++ List.replicate (c - (j + 1)) [] := by
  rw [List.set_append_right _ _ (by rw [chB_length]; exact Nat.le_refl _), chB_length, Nat.sub_self, show c - j = (c - (j + 1)) + 1 from by omega, List.replicate_succ, List.set_cons_zero, chB_succ, List.append_assoc]
  rfl
/-- Blocks in memory of A. -/
def BB (A : Nat → Prop) (w : World) (a : Option Addr) (n c : Nat) (ls : List (List UInt8)) : Prop := Sl (elB A) 1 A w a n c ls
theorem BB.keep {A : Nat → Prop} {w w' : World} {a : Option Addr} {n c : Nat} {ls : List (List UInt8)} (h : BB A w a n c ls) (hs : w.heap.size ≤ w'.heap.size) (hk : ∀ j, j < w.heap.size → A j → w'.heap[j]? = w.heap[j]?) : BB A w' a n c ls := Sl.keep h hs (elB.keep hk) hk
theorem BB.grow {A : Nat → Prop} {w w' : World} {a : Option Addr} {n c : Nat} {ls : List (List UInt8)} (h : BB A w a n c ls) (hb : Below w.heap.size w w') : BB A w' a n c ls := h.keep hb.size fun j hj _ => hb.block j hj
theorem BB.kp {A F : Nat → Prop} {w w' : World} {a : Option Addr} {n c : Nat} {ls : List (List UInt8)} (h : BB A w a n c ls) (k : Kp F w w') (hA : ∀ j, A j → ¬ F j) : BB A w' a n c ls := h.keep k.size fun j hj ha => k.block j hj (hA j ha)
theorem BB.mono {A A' : Nat → Prop} {w : World} {a : Option Addr} {n c : Nat} {ls : List (List UInt8)} (h : BB A w a n c ls) (hA : ∀ j, j < w.heap.size → A j → A' j) : BB A' w a n c ls := Sl.mono h (fun _ _ ⟨p, m, q, e, hb⟩ => ⟨p, m, q, e, hb.mono hA⟩) hA
theorem BB.len {A : Nat → Prop} {w : World} {a : Option Addr} {n c : Nat} {ls : List (List UInt8)} (h : BB A w a n c ls) : ls.length = n := Sl.len h
/-- One of them. -/
theorem BB.at {A : Nat → Prop} {w : World} {a : Option Addr} {n c : Nat} {ls : List (List UInt8)} (h : BB A w a n c ls) {s : Nat} {x : List UInt8} (hx : ls[s]? = some x) : ∃ b o p m q, a = some ⟨b, o, none⟩ ∧ b < w.heap.size ∧ w.cell? ⟨b, o + s, none⟩ = some (.slice p m q) ∧ BA A w p m q x := by
  obtain ⟨b, o, p, m, q, ha, hlt, hc, hb, h5⟩ := Sl.bytes h hx
  refine ⟨b, o, p, m, q, ha, hlt, hc, hb, fun hm => ?_⟩
  obtain ⟨y, cur, f, hp, hA, hh⟩ := h5 hm
  exact ⟨y, hp, hA, (Array.getElem?_eq_some_iff.1 hh).1⟩
theorem BB.bss {A : Nat → Prop} {w : World} {a : Option Addr} {n c : Nat} {ls : List (List UInt8)} (h : BB A w a n c ls) : Bss w a n c ls := by
  have hl := h.len
  refine ⟨hl, (Sl.cap h).1, (Sl.cap h).2, fun i hi => ?_⟩
  obtain ⟨b, o, p, m, q, ha, _, hc, hb⟩ := h.at (List.getElem?_eq_getElem (by omega) : ls[i]? = some _)
  refine ⟨b, o, p, m, q, ha, hc, ?_⟩
  rw [List.getD_eq_getElem?_getD, List.getElem?_eq_getElem (by omega)]
  exact hb.1
/-- What Seal answers. -/
def SealsC (U : Nat → Prop) (r : Nat) (S' : SeaS) (M : SeaM) (ls : List (List UInt8)) (w : World) (e : Ending) (w' : World) : Prop := ∃ a n c, e = .returned (.tuple #[.slice a n c, .int .i64 0]) ∧ BB (fun j => w.heap.size ≤ j) w' a n c ls ∧ Se U w' r S' M ∧ Kp U w w'

set_option maxRecDepth 100000 in
set_option maxHeartbeats 4000000 in
theorem oSeal13 (w : World) {U : Nat → Prop} {r : Nat} {S : SeaS} {M : SeaM} (h : Se U w r S M) (hok : S.Ok) {k what t : List UInt8} {ak aw at' : Option Addr} {ck nw cw nt ct : Nat} (bk : BA (fun j => ¬ U j) w ak 32 ck k) (bw : BA (fun j => ¬ U j) w aw nw cw what) (bt' : BA (fun j => ¬ U j) w at' nt ct t) (zw : nw ≤ 60) (zt : nt ≤ 2000) (hc : S.count + S.book.length + 20 ≤ 1000000) :
    Calls Try.prog 10 #[.pointer (some ⟨r, 0, none⟩), .slice ak 32 ck, .slice aw nw cw, .slice at' nt ct] w (SealsC U r (chS S k what t (cnt nt) (cnt nt)) M (chB S k what t (cnt nt) (cnt nt)) w) := by
  have HS : Hid (Se U w r S M) := h
  have HOK : Hid S.Ok := hok
  have HC0 : Hid (S.count + S.book.length + 20 ≤ 1000000) := hc
  have HK : Hid (BA (fun j => ¬ U j) w ak 32 ck k) := bk
  have HW : Hid (BA (fun j => ¬ U j) w aw nw cw what) := bw
  have HT : Hid (BA (fun j => ¬ U j) w at' nt ct t) := bt'
  have HTL : Hid (t.length = nt) := bt'.1.len
  have HWL : Hid (what.length = nw) := bw.1.len
  have HKL : Hid (k.length = 32) := bk.1.len
  have HC5 : Hid (cnt nt ≤ 5) := by show _ ≤ _; unfold cnt; split <;> omega
  have CC : Hid (∀ u, Calls Try.prog 14 #[.int .i64 (nt : Int)] u fun e w' => e = .returned (.int .i64 (cnt nt : Int)) ∧ u = w') := fun u => oCount u nt (by omega)
  have HBS : Hid (∀ u a m c, Bs u a m c what → m = nw → ∀ j : Nat, j ≤ 100 → Calls Try.prog 27 #[.slice a m c, .int .i64 (nt : Int), .int .i64 (j : Int)] u (Gives u (bes what j (decide (j + 1 = cnt nt))))) := fun u a m c hb hm j hj => oBeside u hb (by omega) nt j (by omega) (by omega)
  obtain ⟨C, hC⟩ : ∃ C, C = cnt nt := ⟨_, rfl⟩
  rw [← hC] at CC HC5 HBS ⊢
  have hCl : C ≤ 5 := HC5.out
  have HLT : Hid (∀ j, U j → j < w.heap.size) := h.lt
  have lr : r < w.heap.size := h.blk.lt
  clear h hok bk bw bt' hC hc
  go_enter Try.func10, Try.ntmps10
  go_wp2_with fail
  refine (CC.out w).mono ?_
  rintro e w1 ⟨rfl, rfl⟩
  go_wp2_with (at_make; refine wpList_mkB w 28 22 (.slice none 0 0) (.slice none 0 0) 1 24 Try.underlying28 infoBy rfl (by omega) (by omega) rfl _ _ rfl C rfl rfl (by omega) ?_; intro w2 hB2 hb2; rw [Nat.mul_one] at hB2; have HB2 : Hid (Blk w2 w.heap.size (List.replicate C (.slice none 0 0)) 22) := hB2; have HQ2 : Hid (Below w.heap.size w w2) := hb2; clear hB2 hb2)
  obtain ⟨g, hg⟩ : ∃ g, g = w.heap.size := ⟨_, rfl⟩
  have HO2 : Hid (OwS (elB fun j => w.heap.size ≤ j) 1 22 w2 w.heap.size (.slice (some ⟨g, 0, none⟩) C C) (chB S k what t C 0 ++ List.replicate (C - 0) [])) := by
    rw [hg]
    exact OwB.made HB2.out (Nat.le_refl _) (by omega)
  have hgw : w.heap.size ≤ g := by omega
  rw [← hg]
  clear hg HB2 CC
  go_loopw [29] (fun i wr => ∃ j : Nat, j ≤ C ∧ i = .int .i64 (j : Int) ∧ Hid (Se U wr r (chS S k what t C j) M) ∧ Hid (OwS (elB fun j => w.heap.size ≤ j) 1 22 wr w.heap.size (.slice (some ⟨g, 0, none⟩) C C) (chB S k what t C j ++ List.replicate (C - j) [])) ∧ Hid (Kp U w wr)) (fun i _ => C - (intOf i).toNat)
  case atStart => exact ⟨0, Nat.zero_le _, rfl, HS.out.grow HQ2.out, HO2, Kp.of_below HQ2.out⟩
  case round =>
    obtain ⟨j, hj, rfl, S1, O1, KP1⟩ := hrel
    clear HO2 HQ2
    by_cases hlt : j < C
    · have i0 : (j : Int) < (C : Int) := by omega
      go_wp2_with fail
      refine (oPart wr nt j (by omega) (by omega)).mono ?_
      rintro e w3 ⟨rfl, rfl⟩
      obtain ⟨L, hL⟩ : ∃ L, L = lo nt j := ⟨_, rfl⟩
      obtain ⟨H, hH⟩ : ∃ H, H = hi nt j := ⟨_, rfl⟩
      have hLH : L ≤ H := by rw [hL, hH]; exact lo_le nt j
      have hHn : H ≤ nt := by rw [hH]; exact hi_le nt j
      have hPL : H - L = plen nt j := by rw [hL, hH]; exact lo_hi nt j
      have hPC : (t.drop L).take (H - L) = piece t j := by
        rw [hL, hH]
        have := piece_cut t j
        rwa [HTL.out] at this
      have hp6 : H - L ≤ 496 := by rw [hPL]; exact plen_le nt j
      rw [← hL, ← hH]
      obtain ⟨a', c', hcut, hcb⟩ := BA.cut2 HT.out.1 L H hLH hHn
      have T1 : Hid (BA (fun j => ¬ U j) wr a' (H - L) c' (piece t j)) := by
        have := hcb _ wr (HT.out.kp KP1.out fun j hj => hj)
        rwa [hPC] at this
      have K1 : Hid (BA (fun j => ¬ U j) wr ak 32 ck k) := HK.out.kp KP1.out fun j hj => hj
      have W1 : Hid (BA (fun j => ¬ U j) wr aw nw cw what) := HW.out.kp KP1.out fun j hj => hj
      have OK1 : Hid (chS S k what t C j).Ok := chS_ok HOK.out k what t C j (by have := HC0.out; omega)
      have HN1 : Hid ((chS S k what t C j).count + (chS S k what t C j).book.length + 3 ≤ 1000000) := by
        show _ ≤ _
        have h1 := chS_len S k what t C j
        have h2 := chS_count S k what t C j
        have := HC0.out
        omega
      have HML : Hid ((chM S k what t C j).length = plen nt j + 16) := by show _ = _; rw [chM_length HKL.out, HTL.out]
      clear hL hH hcb hPC hPL
      obtain ⟨n9, hn9⟩ : ∃ n, n = H - L := ⟨_, rfl⟩
      rw [← hn9] at hcut T1 hp6
      clear hn9
      go_wp2_with fail
      refine regionG (S := Kp U wr) (by kernel_rfl) (Kp.of_below (Below.refl _ wr).drew) ?_
      refine takeG 0 (some 39) (.pointer (some ⟨r, 0, none⟩)) rfl rfl (by kernel_rfl) (by kernel_rfl) (by kernel_rfl) (fun _ _ _ h => h) (ans_plain (by rfl) (fun w _ => rfl)) ?_
      simp only [Act.put, List.setIfInBounds_toArray, List.set_cons_zero, List.set_cons_succ]
      refine takeG 1 (some 40) (.slice ak 32 ck) rfl rfl (by kernel_rfl) (by kernel_rfl) (by kernel_rfl) (fun _ _ _ h => h) (ans_plain (by rfl) (fun w _ => rfl)) ?_
      simp only [Act.put, List.setIfInBounds_toArray, List.set_cons_zero, List.set_cons_succ]
      refine takeG 2 (some 41) (.int .i64 (j : Int)) rfl rfl (by kernel_rfl) (by kernel_rfl) (by kernel_rfl) (fun _ _ _ h => h) (ans_plain (by rfl) (fun w _ => rfl)) ?_
      simp only [Act.put, List.setIfInBounds_toArray, List.set_cons_zero, List.set_cons_succ]
      refine takeG 4 (some 43) (.slice aw nw cw) rfl rfl (by kernel_rfl) (by kernel_rfl) (by kernel_rfl) (fun _ _ _ h => h) (ans_plain (by rfl) (fun w _ => rfl)) ?_
      simp only [Act.put, List.setIfInBounds_toArray, List.set_cons_zero, List.set_cons_succ]
      refine takeG 5 (some 44) (.int .i64 (nt : Int)) rfl rfl (by kernel_rfl) (by kernel_rfl) (by kernel_rfl) (fun _ _ _ h => h) (ans_plain (by rfl) (fun w _ => rfl)) ?_
      simp only [Act.put, List.setIfInBounds_toArray, List.set_cons_zero, List.set_cons_succ]
      refine takeG 6 (some 45) (.int .i64 (j : Int)) rfl rfl (by kernel_rfl) (by kernel_rfl) (by kernel_rfl) (fun _ _ _ h => h) (ans_plain (by rfl) (fun w _ => rfl)) ?_
      simp only [Act.put, List.setIfInBounds_toArray, List.set_cons_zero, List.set_cons_succ]
      refine takeG 8 (some 47) (.slice at' nt ct) rfl rfl (by kernel_rfl) (by kernel_rfl) (by kernel_rfl) (fun _ _ _ h => h) (ans_plain (by rfl) (fun w _ => rfl)) ?_
      simp only [Act.put, List.setIfInBounds_toArray, List.set_cons_zero, List.set_cons_succ]
      refine takeG 9 (some 48) (.int .i64 (L : Int)) rfl rfl (by kernel_rfl) (by kernel_rfl) (by kernel_rfl) (fun _ _ _ h => h) (ans_plain (by rfl) (fun w _ => rfl)) ?_
      simp only [Act.put, List.setIfInBounds_toArray, List.set_cons_zero, List.set_cons_succ]
      refine takeG 10 (some 49) (.int .i64 (H : Int)) rfl rfl (by kernel_rfl) (by kernel_rfl) (by kernel_rfl) (fun _ _ _ h => h) (ans_plain (by rfl) (fun w _ => rfl)) ?_
      simp only [Act.put, List.setIfInBounds_toArray, List.set_cons_zero, List.set_cons_succ]
      refine takeG 11 (some 50) (.slice a' n9 c') rfl rfl (by kernel_rfl) (by kernel_rfl) (by kernel_rfl) (fun _ _ _ h => h) (ans_plain (by rfl) (fun w _ => by have hc := hcut w; unfold execOp; go_simp)) ?_
      simp only [Act.put, List.setIfInBounds_toArray, List.set_cons_zero, List.set_cons_succ]
      refine callG 3 (some 42) 26 #[.tmp 41] #[3] #[.int .i64 (j : Int)] rfl rfl rfl (by rfl) (by rfl) (by kernel_rfl) Try.call26 fun v4 hg4 hs4 => ?_
      refine (oNonce13 v4 j (by omega)).mono ?_
      rintro e v5 ⟨an, mn, cn, rfl, on, hbn⟩
      have lmn := on.toBs.len
      rw [nonL_length] at lmn
      subst lmn
      have hq4 : Below wr.heap.size wr v4 := Grows.ofDrew hg4
      have hq5 : Below wr.heap.size wr v5 := hq4.trans (hbn.mono hq4.size)
      have N5 := on.no (U := U) (fun j hj => Nat.lt_of_lt_of_le (S1.out.lt j hj) hq4.size)
      refine ⟨_, rfl, hs4.trans (Kp.of_below hbn), ?_⟩
      simp only [Act.put, List.setIfInBounds_toArray, List.set_cons_zero, List.set_cons_succ]
      refine callG 7 (some 46) 27 #[.tmp 43, .tmp 44, .tmp 45] #[22, 3, 3] #[.slice aw nw cw, .int .i64 (nt : Int), .int .i64 (j : Int)] rfl rfl rfl (by rfl) (by rfl) (by kernel_rfl) Try.call27 fun v6 hg6 hs6 => ?_
      have hq6 : Below wr.heap.size wr v6 := hq5.trans (Below.mono hg6 hq5.size)
      refine (HBS.out v6 aw nw cw (W1.out.below' hq6).1 rfl j (by omega)).mono ?_
      rintro e v7 ⟨ab, mb, cb, rfl, ob, hbb⟩
      have lmb := ob.toBs.len
      rw [bes_length, HWL.out] at lmb
      have hq7 : Below wr.heap.size wr v7 := hq6.trans (hbb.mono hq6.size)
      have B7 := ob.no (U := U) (fun j hj => Nat.lt_of_lt_of_le (S1.out.lt j hj) hq6.size)
      have N7 := (N5.below' hg6).below' hbb
      refine ⟨_, rfl, hs6.trans (Kp.of_below hbb), ?_⟩
      simp only [Act.put, List.setIfInBounds_toArray, List.set_cons_zero, List.set_cons_succ]
      refine callG 12 (some 51) 25 #[.tmp 39, .tmp 40, .tmp 42, .tmp 46, .tmp 50] #[25, 22, 22, 22, 22] #[.pointer (some ⟨r, 0, none⟩), .slice ak 32 ck, .slice an 12 cn, .slice ab mb cb, .slice a' n9 c'] rfl rfl rfl (by rfl) (by rfl) (by kernel_rfl) Try.call25 fun v8 hg8 hs8 => ?_
      have hq8 : Below wr.heap.size wr v8 := hq7.trans (Below.mono hg8 hq7.size)
      refine (oSSeal v8 (S1.out.grow hq8) OK1.out (K1.out.below' hq8) (N7.below' hg8) (B7.below' hg8) (T1.out.below' hq8) (by omega) (by omega) HN1.out).mono ?_
      rintro e v9 ⟨as', ms, cs', rfl, oS, seS, kpS⟩
      refine ⟨_, rfl, hs8.trans kpS, ?_⟩
      simp only [Act.put, List.setIfInBounds_toArray, List.set_cons_zero, List.set_cons_succ]
      refine takeG 13 (some 38) (.tuple #[.slice as' ms cs', .int .i64 0]) rfl rfl (by kernel_rfl) (by kernel_rfl) (by kernel_rfl) (fun _ _ _ h => h) (ans_plain (by rfl) (fun w _ => rfl)) ?_
      simp only [Act.put, List.setIfInBounds_toArray, List.set_cons_zero, List.set_cons_succ]
      refine takeG 14 (some 52) (.slice as' ms cs') rfl rfl (by kernel_rfl) (by kernel_rfl) (by kernel_rfl) (fun _ _ _ h => h) (ans_plain (by rfl) (fun w _ => by unfold execOp; go_simp)) ?_
      simp only [Act.put, List.setIfInBounds_toArray, List.set_cons_zero, List.set_cons_succ]
      refine takeG 15 (some 53) (.int .i64 0) rfl rfl (by kernel_rfl) (by kernel_rfl) (by kernel_rfl) (fun _ _ _ h => h) (ans_plain (by rfl) (fun w _ => by unfold execOp; go_simp)) ?_
      simp only [Act.put, List.setIfInBounds_toArray, List.set_cons_zero, List.set_cons_succ]
      refine takeG 16 (some 16) (.slice as' ms cs') rfl rfl (by kernel_rfl) (by kernel_rfl) (by kernel_rfl) (fun _ _ _ h => h) (ans_plain (by rfl) (fun w _ => rfl)) ?_
      simp only [Act.put, List.setIfInBounds_toArray, List.set_cons_zero, List.set_cons_succ]
      refine takeG 17 (some 17) (.int .i64 0) rfl rfl (by kernel_rfl) (by kernel_rfl) (by kernel_rfl) (fun _ _ _ h => h) (ans_plain (by rfl) (fun w _ => rfl)) ?_
      simp only [Act.put, List.setIfInBounds_toArray, List.set_cons_zero, List.set_cons_succ]
      refine doneG (by kernel_rfl) fun v10 hg10 hs10 => ?_
      have E10 : Hid (Own v10 w.heap.size (.slice as' ms cs') (chM S k what t C j)) := (oS.below hg10 (Nat.le_refl _)).mono (Nat.le_trans KP1.out.size hq8.size)
      have S10 : Hid (Se U v10 r (chS S k what t C (j + 1)) M) := seS.grow hg10
      have hk10 : Kp U wr v10 := ((Kp.of_below hq8).trans kpS).trans (Kp.of_below hg10)
      have KP10 : Hid (Kp U w v10) := KP1.out.trans hk10
      have O10 : Hid (OwS (elB fun j => w.heap.size ≤ j) 1 22 v10 w.heap.size (.slice (some ⟨g, 0, none⟩) C C) (chB S k what t C j ++ List.replicate (C - j) [])) := OwB.kp O1.out hk10 HLT.out (fun j hj hu => by have := HLT.out j hu; omega)
      clear oS seS kpS hg10 hs10 hg8 hs8 hq8 hq7 hq6 hq5 hq4 hg6 hs6 hg4 hs4 N5 N7 B7 ob on hbb hbn hk10 S1 O1 KP1 K1 W1 T1 OK1 HN1 hcut lmb
      go_wp2_with fail
      refine (oFilled v10 E10.out.toBs (by have h1 := E10.out.toBs.len; rw [HML.out] at h1; have := plen_le nt j; omega)).mono ?_
      rintro e v11 ⟨gf, rfl, oF, hbF⟩
      have hb11 := Nat.le_trans KP10.out.size (Nat.le_refl v10.heap.size)
      have S11 : Hid (Se U v11 r (chS S k what t C (j + 1)) M) := S10.out.grow hbF
      have KP11 : Hid (Kp U w v11) := KP10.out.trans (Kp.of_below hbF)
      have O11 := OwB.below O10.out hbF
      obtain ⟨g', hg', hbg, hgl, ⟨cv0, hcell⟩, hfr, hset⟩ := OwB.set O11 neB5 (k := j) (by rw [List.length_append, chB_length, List.length_replicate]; omega)
      obtain rfl : g = g' := by simpa using hg'
      have F11 : B5 (fun j => w.heap.size ≤ j) v11 (some ⟨gf, 0, none⟩) 512 512 (pad (chM S k what t C j)) := oF.b5 fun j hj _ => by have := KP10.out.size; omega
      have O12 : Hid (OwS (elB fun j => w.heap.size ≤ j) 1 22 (v11.setCell ⟨g, j, none⟩ (.slice (some ⟨gf, 0, none⟩) 512 512)) w.heap.size (.slice (some ⟨g, 0, none⟩) C C) (chB S k what t C (j + 1) ++ List.replicate (C - (j + 1)) [])) := by have := hset F11; rwa [chB_set S k what t hlt] at this
      have kst : Kp (fun i => i = g) v11 (v11.setCell ⟨g, j, none⟩ (.slice (some ⟨gf, 0, none⟩) 512 512)) := Kp.of_grown (but_set v11 g j _)
      have S12 : Hid (Se U (v11.setCell ⟨g, j, none⟩ (.slice (some ⟨gf, 0, none⟩) 512 512)) r (chS S k what t C (j + 1)) M) := S11.out.kp kst fun i hu he => by have := HLT.out i hu; omega
      have KP12 : Hid (Kp U w (v11.setCell ⟨g, j, none⟩ (.slice (some ⟨gf, 0, none⟩) 512 512))) := KP11.out.newer kst fun i he => by omega
      clear hset hg' hbg O11 O10 S10 S11 KP10 KP11 F11 kst oF hbF E10 hb11
      go_wp2_with fail
      go_roundw
      case rel => exact ⟨j + 1, by omega, by go_num, S12, O12, KP12⟩
      case measure => simp [intOf]; omega
    · have i0 : ¬ (j : Int) < (C : Int) := by omega
      have hjC : j = C := by omega
      subst hjC
      have O2 : Hid (OwS (elB fun j => w.heap.size ≤ j) 1 22 wr w.heap.size (.slice (some ⟨g, 0, none⟩) j j) (chB S k what t j j)) := by
        have := O1.out
        rwa [Nat.sub_self, List.replicate_zero, List.append_nil] at this
      clear O1
      go_wp2_with fail
      go_ret2
      exact ⟨_, _, _, rfl, OwS.sl3 O2.out fun i hi _ => hi, S1.out, KP1.out⟩

end Go.Proofs.Ytfknplcnfpincaa

/-
  Contracts of layer 13's program's Open. Conditions: what a text is of at most 60 bytes.
-/
namespace Go.Proofs.Ytfknplcnfpincaa
open Go.RowKit
set_option linter.unusedVariables false

/-- Is there such a piece? -/
def inR (say i : Int) : Prop := 0 ≤ say ∧ say ≤ 1048576 ∧ 0 ≤ i ∧ i < (cnt say.toNat : Int)
set_option maxRecDepth 100000 in
set_option maxHeartbeats 1000000 in
theorem oOpenR (w : World) {r : Nat} {ak aw ab : Option Addr} {nk ck nw cw nb cb : Nat} (say i : Int) (s0 : -9223372036854775808 ≤ say) (s1 : say ≤ 9223372036854775807) (i0 : -9223372036854775808 ≤ i) (i1 : i ≤ 9223372036854775807) (lr : r < w.heap.size) (hn : ¬ inR say i) :
    Calls Try.prog 17 #[.pointer (some ⟨r, 0, none⟩), .slice ak nk ck, .slice aw nw cw, .int .i64 say, .int .i64 i, .slice ab nb cb] w fun e w' => e = .returned (.tuple #[.slice none 0 0, .int .i64 2]) ∧ w = w' := by
  unfold inR at hn
  by_cases h1 : say < 0
  · clear hn
    go_enter Try.func17, Try.ntmps17
    go_wp2_with fail
    go_ret2
    exact ⟨rfl, rfl⟩
  by_cases h2 : (1048576 : Int) < say
  · clear hn
    go_enter Try.func17, Try.ntmps17
    go_wp2_with fail
    go_ret2
    exact ⟨rfl, rfl⟩
  by_cases h3 : i < 0
  · clear hn
    go_enter Try.func17, Try.ntmps17
    go_wp2_with fail
    go_ret2
    exact ⟨rfl, rfl⟩
  obtain ⟨n, rfl⟩ : ∃ n : Nat, say = n := ⟨say.toNat, by omega⟩
  rw [Int.toNat_natCast] at hn
  have CC : Hid (∀ u, Calls Try.prog 14 #[.int .i64 (n : Int)] u fun e w' => e = .returned (.int .i64 (cnt n : Int)) ∧ u = w') := fun u => oCount u n (by omega)
  have h4 : (cnt n : Int) ≤ i := by omega
  clear hn
  go_enter Try.func17, Try.ntmps17
  go_wp2_with fail
  refine (CC.out w).mono ?_
  rintro e w1 ⟨rfl, rfl⟩
  go_wp2_with fail
  go_ret2
  exact ⟨rfl, rfl⟩
set_option maxRecDepth 100000 in
set_option maxHeartbeats 1000000 in
theorem oOpenS (w : World) {r : Nat} {ak aw ab : Option Addr} {nk ck nw cw nb cb : Nat} (n i : Nat) (hn : n ≤ 1048576) (hi : i < cnt n) (lr : r < w.heap.size) (hb : nb ≤ 1000000) (h512 : ¬ nb = 512) :
    Calls Try.prog 17 #[.pointer (some ⟨r, 0, none⟩), .slice ak nk ck, .slice aw nw cw, .int .i64 (n : Int), .int .i64 (i : Int), .slice ab nb cb] w fun e w' => e = .returned (.tuple #[.slice none 0 0, .int .i64 17]) ∧ w = w' := by
  have CC : Hid (∀ u, Calls Try.prog 14 #[.int .i64 (n : Int)] u fun e w' => e = .returned (.int .i64 (cnt n : Int)) ∧ u = w') := fun u => oCount u n (by omega)
  have h1 : ¬ (n : Int) < 0 := by omega
  have h2 : ¬ (1048576 : Int) < (n : Int) := by omega
  have h3 : ¬ (i : Int) < 0 := by omega
  have h4 : ¬ (cnt n : Int) ≤ (i : Int) := by omega
  have h5 : ¬ (nb : Int) = 512 := by omega
  clear hi h512
  go_enter Try.func17, Try.ntmps17
  go_wp2_with fail
  refine (CC.out w).mono ?_
  rintro e w1 ⟨rfl, rfl⟩
  go_wp2_with fail
  go_ret2
  exact ⟨rfl, rfl⟩

set_option maxRecDepth 100000 in
set_option maxHeartbeats 4000000 in
theorem oOpen13 (w : World) {U : Nat → Prop} {r : Nat} {S : SeaS} {M : SeaM} (h : Se U w r S M) {k what blk : List UInt8} {ak aw ab : Option Addr} {ck nw cw cb : Nat} (bk : Bs w ak 32 ck k) (bw : Bs w aw nw cw what) (bb : Bs w ab 512 cb blk) (zw : nw ≤ 60) (n i : Nat) (hn : n ≤ 1048576) (hi : i < cnt n) :
    (zer (blk.drop (plen n i + 16)) = false → Calls Try.prog 17 #[.pointer (some ⟨r, 0, none⟩), .slice ak 32 ck, .slice aw nw cw, .int .i64 (n : Int), .int .i64 (i : Int), .slice ab 512 cb] w fun e w' => e = .returned (.tuple #[.slice none 0 0, .int .i64 6]) ∧ w = w') ∧
    (zer (blk.drop (plen n i + 16)) = true → Calls Try.prog 17 #[.pointer (some ⟨r, 0, none⟩), .slice ak 32 ck, .slice aw nw cw, .int .i64 (n : Int), .int .i64 (i : Int), .slice ab 512 cb] w (OpensS U r (S.opened k (nonL 0 i) (bes what i (decide (i + 1 = cnt n))) (blk.take (plen n i + 16))) M (S.opens k (nonL 0 i) (bes what i (decide (i + 1 = cnt n))) (blk.take (plen n i + 16))) w)) := by
  have HS : Hid (Se U w r S M) := h
  have lr := h.blk.lt
  have HK : Hid (Bs w ak 32 ck k) := bk
  have HW : Hid (Bs w aw nw cw what) := bw
  have HB : Hid (Bs w ab 512 cb blk) := bb
  have HWL : Hid (what.length = nw) := bw.len
  have CC : Hid (∀ u, Calls Try.prog 14 #[.int .i64 (n : Int)] u fun e w' => e = .returned (.int .i64 (cnt n : Int)) ∧ u = w') := fun u => oCount u n (by omega)
  have hcs := cnt_small (n := n) (by omega)
  have CP : Hid (∀ u, Calls Try.prog 18 #[.int .i64 (n : Int), .int .i64 (i : Int)] u fun e w' => e = .returned (.tuple #[.int .i64 (lo n i : Int), .int .i64 (Go.Proofs.Ytfknplcnfpincaa.hi n i : Int)]) ∧ u = w') := fun u => oPart u n i (by omega) (by omega)
  have CB : Hid (∀ u, Bs u aw nw cw what → Calls Try.prog 27 #[.slice aw nw cw, .int .i64 (n : Int), .int .i64 (i : Int)] u (Gives u (bes what i (decide (i + 1 = cnt n))))) := fun u hb => oBeside u hb zw n i (by omega) (by omega)
  have h1 : ¬ (n : Int) < 0 := by omega
  have h2 : ¬ (1048576 : Int) < (n : Int) := by omega
  have h3 : ¬ (i : Int) < 0 := by omega
  have h4 : ¬ (cnt n : Int) ≤ (i : Int) := by omega
  have hil : i ≤ 10000 := by omega
  obtain ⟨L, hL⟩ : ∃ L, L = lo n i := ⟨_, rfl⟩
  obtain ⟨H, hH⟩ : ∃ H, H = Go.Proofs.Ytfknplcnfpincaa.hi n i := ⟨_, rfl⟩
  obtain ⟨P, hP⟩ : ∃ P, P = plen n i := ⟨_, rfl⟩
  obtain ⟨E, hE⟩ : ∃ E, E = P + 16 := ⟨_, rfl⟩
  obtain ⟨bs, hbs⟩ : ∃ b, b = bes what i (decide (i + 1 = cnt n)) := ⟨_, rfl⟩
  have hBL : bs.length = nw + 26 := by rw [hbs, bes_length, HWL.out]
  have hLH : L ≤ H := by rw [hL, hH]; exact lo_le n i
  have hHn : H ≤ n := by rw [hH]; exact hi_le n i
  have hPL : H - L = P := by rw [hL, hH, hP]; exact lo_hi n i
  have hp6 : P ≤ 496 := by rw [hP]; exact plen_le n i
  have a1 : (H : Int) - (L : Int) = (P : Int) := by omega
  have a2 : (P : Int) + 16 = (E : Int) := by omega
  have hEl : E ≤ 512 := by omega
  rw [← hbs, ← hP, ← hE]
  rw [← hL, ← hH] at CP
  rw [← hbs] at CB
  obtain ⟨a', c', hcut, hcb, _⟩ := Bs.cutLow bb E hEl
  obtain ⟨hcut2, hcb2⟩ := Bs.cutHigh bb E hEl
  have Z1 : Hid (Bs w a' (512 - E) c' (blk.drop E)) := hcb w bb
  have T1 : Hid (∀ u, Bs u ab 512 cb blk → Bs u ab E cb (blk.take E)) := fun u hu => hcb2 u hu
  have HLn : H ≤ 1048576 := by omega
  have HLl : L ≤ 1048576 := by omega
  obtain ⟨R, hR⟩ : ∃ R, R = 512 - E := ⟨_, rfl⟩
  rw [← hR] at hcut Z1
  have CZ : Hid (∀ u, Below w.heap.size w u → Calls Try.prog 34 #[.slice a' R c'] u fun e w' => e = .returned (.bool (zer (blk.drop E))) ∧ u = w') := fun u hu => oNoughts u (Z1.out.below hu (Nat.le_refl _))
  clear h bk bw bb hi hL hH hP hE hbs hPL hcb hcb2 hR hLH hHn Z1
  constructor
  · intro hz
    rw [hz] at CZ
    clear hz
    go_enter Try.func17, Try.ntmps17
    go_wp2_with fail
    refine (CC.out w).mono ?_
    rintro e w1 ⟨rfl, rfl⟩
    go_wp2_with fail
    refine (CP.out w).mono ?_
    rintro e w1 ⟨rfl, rfl⟩
    go_wp2_with fail
    refine (CZ.out w (Below.refl _ w)).mono ?_
    rintro e w1 ⟨rfl, rfl⟩
    go_wp2_with fail
    go_ret2
    exact ⟨rfl, rfl⟩
  · intro hz
    rw [hz] at CZ
    clear hz
    go_enter Try.func17, Try.ntmps17
    go_wp2_with fail
    refine (CC.out w).mono ?_
    rintro e w1 ⟨rfl, rfl⟩
    go_wp2_with fail
    refine (CP.out w).mono ?_
    rintro e w1 ⟨rfl, rfl⟩
    go_wp2_with fail
    refine (CZ.out w (Below.refl _ w)).mono ?_
    rintro e w1 ⟨rfl, rfl⟩
    go_wp2_with fail
    refine regionG (S := Kp U w) (by kernel_rfl) (Kp.of_below (Below.refl _ w).drew) ?_
    refine takeG 0 (some 53) (.pointer (some ⟨r, 0, none⟩)) rfl rfl (by kernel_rfl) (by kernel_rfl) (by kernel_rfl) (fun _ _ _ h => h) (ans_plain (by rfl) (fun w _ => rfl)) ?_
    simp only [Act.put, List.setIfInBounds_toArray, List.set_cons_zero, List.set_cons_succ]
    refine takeG 1 (some 54) (.slice ak 32 ck) rfl rfl (by kernel_rfl) (by kernel_rfl) (by kernel_rfl) (fun _ _ _ h => h) (ans_plain (by rfl) (fun w _ => rfl)) ?_
    simp only [Act.put, List.setIfInBounds_toArray, List.set_cons_zero, List.set_cons_succ]
    refine takeG 2 (some 55) (.int .i64 (i : Int)) rfl rfl (by kernel_rfl) (by kernel_rfl) (by kernel_rfl) (fun _ _ _ h => h) (ans_plain (by rfl) (fun w _ => rfl)) ?_
    simp only [Act.put, List.setIfInBounds_toArray, List.set_cons_zero, List.set_cons_succ]
    refine takeG 4 (some 57) (.slice aw nw cw) rfl rfl (by kernel_rfl) (by kernel_rfl) (by kernel_rfl) (fun _ _ _ h => h) (ans_plain (by rfl) (fun w _ => rfl)) ?_
    simp only [Act.put, List.setIfInBounds_toArray, List.set_cons_zero, List.set_cons_succ]
    refine takeG 5 (some 58) (.int .i64 (n : Int)) rfl rfl (by kernel_rfl) (by kernel_rfl) (by kernel_rfl) (fun _ _ _ h => h) (ans_plain (by rfl) (fun w _ => rfl)) ?_
    simp only [Act.put, List.setIfInBounds_toArray, List.set_cons_zero, List.set_cons_succ]
    refine takeG 6 (some 59) (.int .i64 (i : Int)) rfl rfl (by kernel_rfl) (by kernel_rfl) (by kernel_rfl) (fun _ _ _ h => h) (ans_plain (by rfl) (fun w _ => rfl)) ?_
    simp only [Act.put, List.setIfInBounds_toArray, List.set_cons_zero, List.set_cons_succ]
    refine takeG 8 (some 61) (.slice ab 512 cb) rfl rfl (by kernel_rfl) (by kernel_rfl) (by kernel_rfl) (fun _ _ _ h => h) (ans_plain (by rfl) (fun w _ => rfl)) ?_
    simp only [Act.put, List.setIfInBounds_toArray, List.set_cons_zero, List.set_cons_succ]
    refine takeG 9 (some 62) (.int .i64 (E : Int)) rfl rfl (by kernel_rfl) (by kernel_rfl) (by kernel_rfl) (fun _ _ _ h => h) (ans_plain (by rfl) (fun w _ => rfl)) ?_
    simp only [Act.put, List.setIfInBounds_toArray, List.set_cons_zero, List.set_cons_succ]
    refine takeG 10 (some 63) (.slice ab E cb) rfl rfl (by kernel_rfl) (by kernel_rfl) (by kernel_rfl) (fun _ _ _ h => h) (ans_plain (by rfl) (fun w _ => by have hc := hcut2 w; unfold execOp; go_simp)) ?_
    simp only [Act.put, List.setIfInBounds_toArray, List.set_cons_zero, List.set_cons_succ]
    refine callG 3 (some 56) 26 #[.tmp 55] #[3] #[.int .i64 (i : Int)] rfl rfl rfl (by rfl) (by rfl) (by kernel_rfl) Try.call26 fun v4 hg4 hs4 => ?_
    refine (oNonce13 v4 i (by omega)).mono ?_
    rintro e v5 ⟨an, mn, cn, rfl, on, hbn⟩
    have lmn := on.toBs.len
    rw [nonL_length] at lmn
    subst lmn
    have hq4 : Below w.heap.size w v4 := Grows.ofDrew hg4
    have hq5 : Below w.heap.size w v5 := hq4.trans (hbn.mono hq4.size)
    have N5 := on.toBs
    refine ⟨_, rfl, hs4.trans (Kp.of_below hbn), ?_⟩
    simp only [Act.put, List.setIfInBounds_toArray, List.set_cons_zero, List.set_cons_succ]
    refine callG 7 (some 60) 27 #[.tmp 57, .tmp 58, .tmp 59] #[22, 3, 3] #[.slice aw nw cw, .int .i64 (n : Int), .int .i64 (i : Int)] rfl rfl rfl (by rfl) (by rfl) (by kernel_rfl) Try.call27 fun v6 hg6 hs6 => ?_
    have hq6 : Below w.heap.size w v6 := hq5.trans (Below.mono hg6 hq5.size)
    refine (CB.out v6 (HW.out.below hq6 (Nat.le_refl _))).mono ?_
    rintro e v7 ⟨ab7, mb, cb7, rfl, ob, hbb⟩
    have lmb := ob.toBs.len
    rw [hBL] at lmb
    have hq7 : Below w.heap.size w v7 := hq6.trans (hbb.mono hq6.size)
    have N7 := (N5.below hg6 (Nat.le_refl _)).below hbb (Nat.le_refl _)
    refine ⟨_, rfl, hs6.trans (Kp.of_below hbb), ?_⟩
    simp only [Act.put, List.setIfInBounds_toArray, List.set_cons_zero, List.set_cons_succ]
    refine callG 11 (some 64) 35 #[.tmp 53, .tmp 54, .tmp 56, .tmp 60, .tmp 63] #[25, 22, 22, 22, 22] #[.pointer (some ⟨r, 0, none⟩), .slice ak 32 ck, .slice an 12 cn, .slice ab7 mb cb7, .slice ab E cb] rfl rfl rfl (by rfl) (by rfl) (by kernel_rfl) Try.call35 fun v8 hg8 hs8 => ?_
    have hq8 : Below w.heap.size w v8 := hq7.trans (Below.mono hg8 hq7.size)
    refine (oSOpen v8 (HS.out.grow hq8) (HK.out.below hq8 (Nat.le_refl _)) (N7.below hg8 (Nat.le_refl _)) (ob.toBs.below hg8 (Nat.le_refl _)) (T1.out v8 (HB.out.below hq8 (Nat.le_refl _))) (by omega) (by omega)).mono ?_
    rintro e v9 ⟨as', ms, cs', rfl, oS, seS, kpS⟩
    obtain ⟨O, hO⟩ : ∃ O, O = S.opens k (nonL 0 i) bs (blk.take E) := ⟨_, rfl⟩
    rw [← hO] at oS ⊢
    obtain ⟨cd, hcd⟩ : ∃ cd : Int, cd = (if O.isSome then 0 else 6) := ⟨_, rfl⟩
    rw [← hcd]
    refine ⟨_, rfl, hs8.trans kpS, ?_⟩
    simp only [Act.put, List.setIfInBounds_toArray, List.set_cons_zero, List.set_cons_succ]
    refine takeG 12 (some 65) (.slice as' ms cs') rfl rfl (by kernel_rfl) (by kernel_rfl) (by kernel_rfl) (fun _ _ _ h => h) (ans_plain (by rfl) (fun w _ => by unfold execOp; go_simp)) ?_
    simp only [Act.put, List.setIfInBounds_toArray, List.set_cons_zero, List.set_cons_succ]
    refine takeG 13 (some 66) (.int .i64 cd) rfl rfl (by kernel_rfl) (by kernel_rfl) (by kernel_rfl) (fun _ _ _ h => h) (ans_plain (by rfl) (fun w _ => by unfold execOp; go_simp)) ?_
    simp only [Act.put, List.setIfInBounds_toArray, List.set_cons_zero, List.set_cons_succ]
    refine takeG 14 (some 12) (.slice as' ms cs') rfl rfl (by kernel_rfl) (by kernel_rfl) (by kernel_rfl) (fun _ _ _ h => h) (ans_plain (by rfl) (fun w _ => rfl)) ?_
    simp only [Act.put, List.setIfInBounds_toArray, List.set_cons_zero, List.set_cons_succ]
    refine takeG 15 (some 13) (.int .i64 cd) rfl rfl (by kernel_rfl) (by kernel_rfl) (by kernel_rfl) (fun _ _ _ h => h) (ans_plain (by rfl) (fun w _ => rfl)) ?_
    simp only [Act.put, List.setIfInBounds_toArray, List.set_cons_zero, List.set_cons_succ]
    refine doneG (by kernel_rfl) fun v10 hg10 hs10 => ?_
    have R10 : Hid (OpensS U r (S.opened k (nonL 0 i) bs (blk.take E)) M O w (.returned (.tuple #[.slice as' ms cs', .int .i64 cd])) v10) := ⟨as', ms, cs', by rw [hcd], (oS.below' hg10).mono' (fun j _ hj => Nat.le_trans hq8.size hj), seS.grow hg10, ((Kp.of_below hq8).trans kpS).trans (Kp.of_below hg10)⟩
    clear oS seS kpS hg10 hs10 hg8 hs8 hq8 hq7 hq6 hq5 hq4 hg6 hs6 hg4 hs4 N5 N7 ob on hbb hbn hcut hcut2 hcd
    go_wp2_with fail
    go_ret2
    rw [← hO]
    exact R10.out

end Go.Proofs.Ytfknplcnfpincaa

/-
  What any pieces are cut to ('cutL'), and the contract of layer 13's program's Cut. Conditions: numbers of at most 2^30; at most 100000 pieces, of at most 100000 bytes in all.
-/
namespace Go.Proofs.Ytfknplcnfpincaa
open Go.RowKit
set_option linter.unusedVariables false

/-- The bytes from one up to another one, where the pieces' bytes begin at 496 times first. -/
def cutL (ls : List (List UInt8)) (first : Nat) (f t : Int) : List UInt8 :=
  if (496 * first : Int) ≤ f ∧ f ≤ t ∧ t - (496 * first : Int) ≤ (ls.flatten.length : Int) then (ls.flatten.drop (f - (496 * first : Int)).toNat).take (t - f).toNat else []
theorem cutL_none {ls : List (List UInt8)} {first : Nat} {f t : Int} (h : f < (496 * first : Int) ∨ t ≤ f ∨ (ls.flatten.length : Int) < t - (496 * first : Int)) : cutL ls first f t = [] := by
  unfold cutL
  split
  · rename_i hc
    rcases h with h | h | h
    · omega
    · rw [show (t - f).toNat = 0 from by omega, List.take_zero]
    · omega
  · rfl
theorem cutL_some {ls : List (List UInt8)} {first A N : Nat} {f t : Int} (hf : f = (496 * first : Int) + A) (ht : t = f + N) (hl : A + N ≤ ls.flatten.length) : cutL ls first f t = (ls.flatten.drop A).take N := by
  unfold cutL
  rw [if_pos (by omega)]
  congr 1
  · omega
  · congr 1
    omega
/-- One piece more. -/
theorem cut_step (X p : List UInt8) (A N : Nat) : ((X ++ p).drop A).take N = (X.drop A).take N ++ (p.drop (A - X.length)).take (N - ((X.drop A).take N).length) := by
  rw [List.drop_append, List.take_append, List.length_take]
  congr 2
  omega
theorem cut_part (p : List UInt8) (ah lf K T : Nat) (hK : K = min ah p.length) (hT : T = min lf (p.length - K)) : (p.drop K).take (K + T - K) = (p.drop ah).take lf := by
  rw [Nat.add_sub_cancel_left]
  by_cases h : ah ≤ p.length
  · have e : K = ah := by omega
    subst e
    by_cases h2 : lf ≤ p.length - K
    · rw [show T = lf from by omega]
    · rw [List.take_of_length_le (by rw [List.length_drop]; omega), List.take_of_length_le (by rw [List.length_drop]; omega)]
  · rw [List.drop_of_length_le (l := p) (i := ah) (by omega), List.drop_of_length_le (by omega)]
    simp
/-- What is left to skip, and to take, behind some pieces. -/
def outK (X : List UInt8) (A N : Nat) : List UInt8 := (X.drop A).take N
theorem outK_len (X : List UInt8) (A N : Nat) : (outK X A N).length = min N (X.length - A) := by simp [outK]
theorem outK_step {X p : List UInt8} {A N K T : Nat} (hK : K = min (A - X.length) p.length) (hT : T = min (N - (outK X A N).length) (p.length - K)) : outK X A N ++ (p.drop K).take (K + T - K) = outK (X ++ p) A N := by
  rw [cut_part p (A - X.length) (N - (outK X A N).length) K T hK hT]
  exact (cut_step X p A N).symm
theorem outK_ahead {X p : List UInt8} {A K : Nat} (hK : K = min (A - X.length) p.length) : A - X.length - K = A - (X ++ p).length := by
  rw [List.length_append]
  omega
theorem outK_left {X p : List UInt8} {A N K T : Nat} (hK : K = min (A - X.length) p.length) (hT : T = min (N - (outK X A N).length) (p.length - K)) : N - (outK X A N).length - T = N - (outK (X ++ p) A N).length := by
  rw [outK_len] at hT ⊢
  rw [outK_len, List.length_append]
  omega
theorem tot_small (l : List (List UInt8)) (m : Nat) (h : ∀ x ∈ l, x.length ≤ m) : tot l ≤ m * l.length := by
  induction l with
  | nil => simp [tot]
  | cons y r ih =>
    have h1 := h y (by simp)
    have h2 := ih fun x hx => h x (by simp [hx])
    simp only [tot, List.length_cons, Nat.mul_add, Nat.mul_one]
    omega
theorem flat_take_len (ls : List (List UInt8)) (k : Nat) : (ls.take k).flatten.length ≤ ls.flatten.length := by
  rw [tot_flatten, tot_flatten]
  exact tot_take_le ls k

set_option maxRecDepth 100000 in
set_option maxHeartbeats 2000000 in
theorem oCut13 (w : World) {a : Option Addr} {m c : Nat} {ls : List (List UInt8)} (ha : Bss w a m c ls) (hz : tot ls ≤ 100000) (hm : m ≤ 100000) (first : Nat) (h1 : first ≤ 1000) (f t : Int) (f0 : -2000000000 ≤ f) (f1 : f ≤ 2000000000) (t0 : -2000000000 ≤ t) (t1 : t ≤ 2000000000) :
    Calls Try.prog 20 #[.slice a m c, .int .i64 (first : Int), .int .i64 f, .int .i64 t] w (Gives w (cutL ls first f t)) := by
  have g0 : ¬ (first : Int) < 0 := by omega
  by_cases c1 : f < 0
  · rw [cutL_none (Or.inl (by omega))]
    go_enter Try.func20, Try.ntmps20
    go_wp2_with fail
    go_ret
    exact Gives.mk (Own.nil _ _) (Below.refl _ _)
  by_cases c2 : t ≤ f
  · rw [cutL_none (Or.inr (Or.inl c2))]
    go_enter Try.func20, Try.ntmps20
    go_wp2_with fail
    go_ret
    exact Gives.mk (Own.nil _ _) (Below.refl _ _)
  obtain ⟨F, rfl⟩ : ∃ F : Nat, f = F := ⟨f.toNat, by omega⟩
  obtain ⟨q, hq⟩ : ∃ q, q = F / 496 := ⟨_, rfl⟩
  have hqd : (F : Int).tdiv 496 = (q : Int) := by rw [hq]; exact tdiv_nat F 496
  have hql : q ≤ 10000000 := by omega
  by_cases c3 : q < first
  · have c3' : (q : Int) < (first : Int) := by omega
    rw [cutL_none (Or.inl (by omega))]
    clear hq
    go_enter Try.func20, Try.ntmps20
    go_wp2_with fail
    go_ret
    exact Gives.mk (Own.nil _ _) (Below.refl _ _)
  have c3' : ¬ (q : Int) < (first : Int) := by omega
  obtain ⟨G, hG⟩ : ∃ G, G = 496 * first := ⟨_, rfl⟩
  have hmul : (first : Int) * 496 = (G : Int) := by omega
  obtain ⟨A, hA⟩ : ∃ A, F = G + A := ⟨F - G, by omega⟩
  have hsA : (F : Int) - (G : Int) = (A : Int) := by omega
  obtain ⟨N, hN⟩ : ∃ N : Nat, t = F + N := ⟨(t - F).toNat, by omega⟩
  have hN0 : 0 < N := by omega
  have hsN : t - (F : Int) = (N : Int) := by omega
  have hNl : N ≤ 4000000000 := by omega
  have hAl : A ≤ 4000000000 := by omega
  have HFIN : Hid (A + N ≤ ls.flatten.length → cutL ls first (F : Int) t = outK ls.flatten A N) := fun h => cutL_some (by omega) (by omega) h
  have HNON : Hid (¬ A + N ≤ ls.flatten.length → cutL ls first (F : Int) t = []) := fun h => cutL_none (Or.inr (Or.inr (by omega)))
  have HL : Hid (ls.length = m) := ha.len
  have HZ : Hid (tot ls ≤ 100000) := hz
  have HB : Hid (Bss w a m c ls) := ha
  clear hq hG hA hN ha hz
  go_enter Try.func20, Try.ntmps20
  go_wp2_with fail
  go_loopw [9, 10, 11, 42] (fun ah lf out i wr => ∃ k : Nat, k ≤ m ∧ i = .int .i64 (k : Int) ∧ (∃ ahN lfN : Nat, ah = .int .i64 (ahN : Int) ∧ lf = .int .i64 (lfN : Int) ∧ Hid (ahN = A - (ls.take k).flatten.length) ∧ Hid (lfN = N - (outK (ls.take k).flatten A N).length)) ∧ (∃ (oa : Option Addr) (on oc : Nat), out = .slice oa on oc ∧ Hid (Own wr w.heap.size (.slice oa on oc) (outK (ls.take k).flatten A N))) ∧ Below w.heap.size w wr) (fun _ _ _ i _ => m - (intOf i).toNat)
  case atStart => exact ⟨0, Nat.zero_le _, rfl, ⟨A, N, rfl, rfl, by show _ = _; simp, by show _ = _; simp [outK]⟩, ⟨none, 0, 0, rfl, by show Own _ _ _ _; simpa [outK] using Own.nil w w.heap.size⟩, Below.refl _ _⟩
  case round =>
    obtain ⟨k, hk, rfl, ⟨ah, lf, rfl, rfl, HAH, HLF⟩, ⟨oa, on, oc, rfl, ho⟩, hb⟩ := hrel
    have hahl : ah ≤ 4000000000 := by have := HAH.out; omega
    have hlfl : lf ≤ 4000000000 := by have := HLF.out; omega
    by_cases hlt : k < m
    · have i0 : (k : Int) < (m : Int) := by omega
      obtain ⟨x, o, hxa, hlx, hcell⟩ := HB.out.at (by omega)
      subst hxa
      obtain ⟨p, pm, pq, hc, hp⟩ := Bss.part hcell hb k hlt
      have hpl := hp.len
      have hpr : wr.heap.size ≥ w.heap.size := hb.size
      have hp' : Bs wr p pm pq (ls.getD k []) := hp.below hb (Nat.le_refl _)
      have hst := flat_step (l := ls) (k := k) (by rw [HL.out]; exact hlt)
      have hrm := flat_room (l := ls) (k := k) (by rw [HL.out]; exact hlt) HZ.out
      obtain ⟨K, hK⟩ : ∃ K, K = min ah pm := ⟨_, rfl⟩
      obtain ⟨T, hT⟩ : ∃ T, T = min lf (pm - K) := ⟨_, rfl⟩
      obtain ⟨D, hD⟩ : ∃ D, D = pm - K := ⟨_, rfl⟩
      obtain ⟨E, hE⟩ : ∃ E, E = K + T := ⟨_, rfl⟩
      obtain ⟨ah', hah'⟩ : ∃ a, a = ah - K := ⟨_, rfl⟩
      obtain ⟨lf', hlf'⟩ : ∃ a, a = lf - T := ⟨_, rfl⟩
      obtain ⟨pa, pc, hcut, hcb⟩ := Bs.cut2 hp' K E (by omega) (by omega)
      have HKm : Hid (K = min (A - (ls.take k).flatten.length) (ls.getD k []).length) := by show _ = _; rw [hK, HAH.out, hpl]
      have HTm : Hid (T = min (N - (outK (ls.take k).flatten A N).length) ((ls.getD k []).length - K)) := by show _ = _; rw [hT, HLF.out, hpl]
      have HSRC : Hid (Bs wr pa (E - K) pc (((ls.getD k []).drop K).take (E - K))) := hcb wr hp'
      have HNEW : Hid (outK (ls.take k).flatten A N ++ ((ls.getD k []).drop K).take (E - K) = outK (ls.take (k + 1)).flatten A N) := by
        show _ = _
        rw [hE, outK_step HKm.out HTm.out, hst]
      have HA2 : Hid (ah' = A - (ls.take (k + 1)).flatten.length) := by show _ = _; rw [hah', HAH.out, outK_ahead HKm.out, hst]
      have HL2 : Hid (lf' = N - (outK (ls.take (k + 1)).flatten A N).length) := by show _ = _; rw [hlf', HLF.out, outK_left HKm.out HTm.out, hst]
      have hrm2 : (outK (ls.take k).flatten A N).length + (((ls.getD k []).drop K).take (E - K)).length ≤ 1000000000 := by
        rw [outK_len, List.length_take, List.length_drop]
        omega
      have HRM : Hid ((outK (ls.take k).flatten A N).length + (((ls.getD k []).drop K).take (E - K)).length ≤ 1000000000) := hrm2
      have hpm : pm ≤ 1000000000 := by have h1 := hrm; rw [hpl] at h1; omega
      have b1 : K ≤ 1000000000 := by omega
      have b2 : T ≤ 4000000000 := by omega
      have b3 : D ≤ 1000000000 := by omega
      have b4 : E ≤ 5000000000 := by omega
      have b5 : ah' ≤ 4000000000 := by omega
      have b6 : lf' ≤ 4000000000 := by omega
      clear hcb hst hrm hrm2 HAH HLF HKm HTm hp hp' hcell hpl
      obtain ⟨R, hR⟩ : ∃ R, R = E - K := ⟨_, rfl⟩
      rw [← hR] at HSRC HNEW HRM hcut
      clear hR
      by_cases q1 : pm < ah
      · have q1' : (pm : Int) < (ah : Int) := by omega
        obtain rfl : K = pm := by omega
        obtain rfl : D = 0 := by omega
        obtain rfl : T = 0 := by omega
        obtain rfl : E = K := by omega
        have s1 : (ah : Int) - (E : Int) = (ah' : Int) := by omega
        obtain rfl : lf' = lf := by omega
        clear hK hT hD hE hah' hlf'
        by_cases q2 : 0 < lf'
        · have q2' : (0 : Int) < (lf' : Int) := by omega
          go_wp2_with (at_builtin; refine wpList_app wr rfl (.tmp 59) (.tmp 65) rfl w.heap.size (.slice oa on oc) _ rfl ho.out pa R pc _ rfl HSRC.out HRM.out hb.size ?_; intro v3 w3 o3 hb3; have O3 : Hid (Own w3 w.heap.size v3 (outK (ls.take (k + 1)).flatten A N)) := (by rw [HNEW.out] at o3; exact o3); clear o3)
          obtain ⟨oa3, oc3, hv3, _⟩ := O3.out.bs
          subst hv3
          go_roundw
          case rel => exact ⟨k + 1, by omega, by go_num, ⟨ah', lf', rfl, rfl, HA2, HL2⟩, ⟨_, _, _, rfl, O3⟩, hb.trans hb3⟩
          case measure => simp [intOf]; omega
        · obtain rfl : lf' = 0 := by omega
          go_wp2_with (at_builtin; refine wpList_app wr rfl (.tmp 59) (.tmp 65) rfl w.heap.size (.slice oa on oc) _ rfl ho.out pa R pc _ rfl HSRC.out HRM.out hb.size ?_; intro v3 w3 o3 hb3; have O3 : Hid (Own w3 w.heap.size v3 (outK (ls.take (k + 1)).flatten A N)) := (by rw [HNEW.out] at o3; exact o3); clear o3)
          obtain ⟨oa3, oc3, hv3, _⟩ := O3.out.bs
          subst hv3
          go_roundw
          case rel => exact ⟨k + 1, by omega, by go_num, ⟨ah', 0, rfl, rfl, HA2, HL2⟩, ⟨_, _, _, rfl, O3⟩, hb.trans hb3⟩
          case measure => simp [intOf]; omega
      · have q1' : ¬ (pm : Int) < (ah : Int) := by omega
        obtain rfl : K = ah := by omega
        obtain rfl : ah' = 0 := by omega
        have d1 : (pm : Int) - (K : Int) = (D : Int) := by omega
        by_cases q2 : D < lf
        · have q2' : (D : Int) < (lf : Int) := by omega
          obtain rfl : T = D := by omega
          have e1 : (K : Int) + (T : Int) = (E : Int) := by omega
          have s2 : (lf : Int) - (T : Int) = (lf' : Int) := by omega
          clear hK hT hD hE hah' hlf'
          go_wp2_with (at_builtin; refine wpList_app wr rfl (.tmp 59) (.tmp 65) rfl w.heap.size (.slice oa on oc) _ rfl ho.out pa R pc _ rfl HSRC.out HRM.out hb.size ?_; intro v3 w3 o3 hb3; have O3 : Hid (Own w3 w.heap.size v3 (outK (ls.take (k + 1)).flatten A N)) := (by rw [HNEW.out] at o3; exact o3); clear o3)
          obtain ⟨oa3, oc3, hv3, _⟩ := O3.out.bs
          subst hv3
          go_roundw
          case rel => exact ⟨k + 1, by omega, by go_num, ⟨0, lf', rfl, rfl, HA2, HL2⟩, ⟨_, _, _, rfl, O3⟩, hb.trans hb3⟩
          case measure => simp [intOf]; omega
        · have q2' : ¬ (D : Int) < (lf : Int) := by omega
          obtain rfl : T = lf := by omega
          obtain rfl : lf' = 0 := by omega
          have e1 : (K : Int) + (T : Int) = (E : Int) := by omega
          clear hK hT hD hE hah' hlf'
          go_wp2_with (at_builtin; refine wpList_app wr rfl (.tmp 59) (.tmp 65) rfl w.heap.size (.slice oa on oc) _ rfl ho.out pa R pc _ rfl HSRC.out HRM.out hb.size ?_; intro v3 w3 o3 hb3; have O3 : Hid (Own w3 w.heap.size v3 (outK (ls.take (k + 1)).flatten A N)) := (by rw [HNEW.out] at o3; exact o3); clear o3)
          obtain ⟨oa3, oc3, hv3, _⟩ := O3.out.bs
          subst hv3
          go_roundw
          case rel => exact ⟨k + 1, by omega, by go_num, ⟨0, 0, rfl, rfl, HA2, HL2⟩, ⟨_, _, _, rfl, O3⟩, hb.trans hb3⟩
          case measure => simp [intOf]; omega
    · have i0 : ¬ (k : Int) < (m : Int) := by omega
      have hkm : ls.take k = ls := List.take_of_length_le (by rw [HL.out]; omega)
      rw [hkm] at HAH HLF ho
      have HO : Hid (Own wr w.heap.size (.slice oa on oc) (outK ls.flatten A N)) := ho
      have HOL : Hid ((outK ls.flatten A N).length = min N (ls.flatten.length - A)) := outK_len _ _ _
      clear hkm ho
      by_cases hl0 : 0 < lf
      · have j0 : (0 : Int) < (lf : Int) := by omega
        have HE : Hid (cutL ls first (F : Int) t = []) := HNON.out (by have h1 := HLF.out; have h2 := HOL.out; omega)
        go_wp2_with fail
        go_ret
        rw [HE.out]
        exact Gives.mk (Own.nil _ _) hb
      · have j0 : ¬ (0 : Int) < (lf : Int) := by omega
        have HE : Hid (cutL ls first (F : Int) t = outK ls.flatten A N) := HFIN.out (by have h1 := HLF.out; have h2 := HOL.out; omega)
        go_wp2_with fail
        go_ret
        rw [HE.out]
        exact Gives.mk HO.out hb

end Go.Proofs.Ytfknplcnfpincaa

/-
  Regions that draw their order: a call as one operation, and two that may come up. No condition; no statement of the seat is proved here.
-/
namespace Go.Proofs.Ytfknplcnfpincaa
open Go.RowKit
set_option linter.unusedVariables false

/-- A call, wherever it comes. -/
theorem opCallW {ops : Array Oper} {Q : Exit → Act → World → Prop} (i : Nat) (d : Option Tmp) (f : FuncId) (args : Array Operand) (tys : Array TypeId) (vs : Array Value) {oi : Oper} {K : Act → World → Prop} {a : Act} {w : World} (hi : ops[i]? = some oi) (hd : oi.dst = d)
    (ho : oi.op = .call { callee := .value (.func f), args := args, argTypes := tys }) (hw : Region.wanted oi (yielded ops a.tmps) = true) (hv : (args.toList.map a.eval).toArray = vs) (hc : ∀ vs w, (callFunc f vs).run Try.prog w = .ok (.enter f vs) w)
    (h : Calls Try.prog f vs w fun x w' => ∃ v, x = .returned v ∧ K (a.put d v) w') : wpOp Try.prog ops Q i K a w := by
  subst hd
  have hv' : args.map a.eval = vs := by rw [← hv]; apply Array.toList_inj.1; rw [Array.toList_map]
  subst hv'
  unfold wpOp
  simp only [hi]
  rw [if_pos hw]
  left
  unfold Oper.wp
  have hx : (execOp a.eval oi).run Try.prog w = .ok (.enter f (args.map a.eval)) w := by simp [execOp, ho, resolve, invoke, Act.eval, Deferred.ofValue, hc]
  rw [hx, Oper.upon_enter]
  refine h.mono ?_
  rintro x w' ⟨v, rfl, hh⟩
  exact hh
/-- Two that may come up. -/
theorem fork2G {P : Program} {ops : Array Oper} {Q : Exit → Act → World → Prop} {md : Region.Mode} {S : World → Prop} (i j : Nat) {fuel : Nat} {listed : Array Bool} {a : Act} {w : World} (hr : Region.ready md ops listed = [i, j])
    (h : ∀ w', Grows w w' → S w' → wpOp P ops Q i (fun a' w'' => S w'' ∧ wpAnyG P md ops Q S fuel (listed.setIfInBounds i true) a' w'') a w')
    (k : ∀ w', Grows w w' → S w' → wpOp P ops Q j (fun a' w'' => S w'' ∧ wpAnyG P md ops Q S fuel (listed.setIfInBounds j true) a' w'') a w') : wpAnyG P md ops Q S (fuel + 1) listed a w :=
  fun w' hg hS => ⟨fun h0 => (by rw [h0] at hr; cases hr), fun x hx => by
    rw [hr] at hx
    rcases List.mem_cons.1 hx with rfl | hx
    · exact h w' hg hS
    · rw [List.mem_singleton.1 hx]
      exact k w' hg hS⟩

end Go.Proofs.Ytfknplcnfpincaa
