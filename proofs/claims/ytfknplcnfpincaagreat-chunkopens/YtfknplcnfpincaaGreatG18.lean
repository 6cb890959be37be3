/-
  4 texts in one. No statement of the seat is proved here.
-/
import Derived.Test.YtfknplcnfpincaaGreatG17

/-
  The contract of layer 13's program's Seal. Conditions: a text of at most 2000 bytes, what it is of at most 60; a book that is not too long.
-/
namespace Go.Proofs.YtfknplcnfpincaaGreat
open Go.RowKit
set_option linter.unusedVariables false

/-- 'b[i:j]' of bytes that lie in A. -/
theorem BA.cut2 {w0 : World} {a : Option Addr} {n c : Nat} {l : List UInt8} (h : Bs w0 a n c l) (i j : Nat) (hij : i ≤ j) (hj : j ≤ n) :
    ∃ a' c', (∀ w, Sem.run Tryz.prog (Instr.slice 22 (.slice a n c) (some (.int .i64 (i : Int))) (some (.int .i64 (j : Int))) none) w = .ok (.slice a' (j - i) c') w) ∧
      (∀ A w, BA A w a n c l → BA A w a' (j - i) c' ((l.drop i).take (j - i))) := by
  have hcap := h.cap
  refine ⟨if c = i then a else a.map (fun x => x.add (i * 1)), c - i, ?_, ?_⟩
  · intro w
    rw [run_slice_lh w 22 a n c under23 .i64 .i64 (i : Int) (j : Int) (by omega) (by omega) (by omega), sizeOf5]
    simp only [Result.andThen, sliced, Int.toNat_natCast]
  · rintro A w ⟨hb, hA⟩
    refine ⟨⟨by simp [hb.len]; omega, by omega, Nat.le_trans (Nat.sub_le _ _) hb.2.2.1, ?_, ?_⟩, fun hm => ?_⟩
    · intro he
      by_cases hck : c = i
      · omega
      · rw [if_neg hck] at he
        simp at he
        have := hb.2.2.2.1 he
        omega
    · intro k hk
      obtain ⟨b, o, ha, hc⟩ := hb.2.2.2.2 (i + k) (by omega)
      subst ha
      refine ⟨b, o + i, ?_, ?_⟩
      · rw [if_neg (by omega)]
        simp only [Option.map_some, Nat.mul_one]
        exact congrArg some (add_none b o i)
      · rw [bt_take hk, bt_drop, show o + i + k = o + (i + k) from by omega]
        exact hc
    · obtain ⟨x, hx, hAx, hlt⟩ := hA (by omega)
      obtain ⟨b, o, ha, hc⟩ := hb.2.2.2.2 i (by omega)
      rw [hx] at ha
      obtain rfl := Option.some.inj ha
      subst hx
      refine ⟨⟨b, o + i, none⟩, ?_, hAx, hlt⟩
      rw [if_neg (by omega)]
      simp only [Option.map_some, Nat.mul_one]
      exact congrArg some (add_none b o i)
/-- 'make([][]byte, n)'. -/
theorem OwB.made {A : Nat → Prop} {w : World} {g base n : Nat} {e : TypeId} (h : Blk w g (List.replicate n (.slice none 0 0)) e) (hb : base ≤ g) (hn : n ≤ 1000000) : OwS (elB A) 1 e w base (.slice (some ⟨g, 0, none⟩) n n) (List.replicate n []) := by
  have hf : ∀ n : Nat, (List.replicate n [(.slice none 0 0 : Value)]).flatten = List.replicate n (.slice none 0 0) := fun n => by
    induction n with
    | zero => rfl
    | succ n ih => rw [List.replicate_succ, List.flatten_cons, ih, List.replicate_succ]; rfl
  have hr : ∀ n : Nat, Rel2 (Row (elB A) 1 w) (List.replicate n []) (List.replicate n [(.slice none 0 0 : Value)]) := fun n => by
    induction n with
    | zero => exact trivial
    | succ n ih =>
      rw [List.replicate_succ, List.replicate_succ]
      exact ⟨⟨rfl, by intro v hv; simp at hv; subst hv; rfl, none, 0, 0, rfl, B5.nil A w⟩, ih⟩
  refine ⟨List.replicate n [.slice none 0 0], hr n, ?_⟩
  rw [hf, List.length_replicate]
  refine ⟨by rw [List.length_replicate, Nat.mul_one], Or.inr ⟨g, n, (List.replicate n (Value.slice none 0 0)).toArray, rfl, hb, h, Nat.le_refl _, by unfold maxLen; omega, by simp, ?_⟩⟩
  rw [List.take_of_length_le (by simp)]
theorem OwB.kp {A F : Nat → Prop} {e : TypeId} {w w' : World} {base : Nat} {v : Value} {l : List (List UInt8)} (h : OwS (elB A) 1 e w base v l) (k : Kp F w w') (hF : ∀ j, F j → j < base) (hA : ∀ j, A j → ¬ F j) : OwS (elB A) 1 e w' base v l :=
  h.keep (elB.keep fun j hj ha => k.block j hj (hA j ha)) (fun j hj => k.block j (h.lt j hj).2 fun hf => by have := (h.lt j hj).1; have := hF j hf; omega)
theorem chB_set (S : SeaS) (k what t : List UInt8) {c j : Nat} (h : j < c) : (chB S k what t c j ++ List.replicate (c - j) []).set j (pad (chM S k what t c j)) = chB S k what t c (j + 1) ++ List.replicate (c - (j + 1)) [] := by
  rw [List.set_append_right _ _ (by rw [chB_length]; exact Nat.le_refl _), chB_length, Nat.sub_self, show c - j = (c - (j + 1)) + 1 from by omega, List.replicate_succ, List.set_cons_zero, chB_succ, List.append_assoc]
  rfl
/-- Blocks in memory of A. -/
def BB (A : Nat → Prop) (w : World) (a : Option Addr) (n c : Nat) (ls : List (List UInt8)) : Prop := Sl (elB A) 1 A w a n c ls
theorem BB.keep {A : Nat → Prop} {w w' : World} {a : Option Addr} {n c : Nat} {ls : List (List UInt8)} (h : BB A w a n c ls) (hs : w.heap.size ≤ w'.heap.size) (hk : ∀ j, j < w.heap.size → A j → w'.heap[j]? = w.heap[j]?) : BB A w' a n c ls := Sl.keep h hs (elB.keep hk) hk
theorem BB.grow {A : Nat → Prop} {w w' : World} {a : Option Addr} {n c : Nat} {ls : List (List UInt8)} (h : BB A w a n c ls) (hb : Below w.heap.size w w') : BB A w' a n c ls := h.keep hb.size fun j hj _ => hb.block j hj
theorem BB.kp {A F : Nat → Prop} {w w' : World} {a : Option Addr} {n c : Nat} {ls : List (List UInt8)} (h : BB A w a n c ls) (k : Kp F w w') (hA : ∀ j, A j → ¬ F j) : BB A w' a n c ls := h.keep k.size fun j hj ha => k.block j hj (hA j ha)
theorem BB.mono {A A' : Nat → Prop} {w : World} {a : Option Addr} {n c : Nat} {ls : List (List UInt8)} (h : BB A w a n c ls) (hA : ∀ j, j < w.heap.size → A j → A' j) : BB A' w a n c ls := Sl.mono h (fun _ _ ⟨p, m, q, e, hb⟩ => ⟨p, m, q, e, hb.mono hA⟩) hA
theorem BB.len {A : Nat → Prop} {w : World} {a : Option Addr} {n c : Nat} {ls : List (List UInt8)} (h : BB A w a n c ls) : ls.length = n := Sl.len h
/-- One of them. -/
theorem BB.at {A : Nat → Prop} {w : World} {a : Option Addr} {n c : Nat} {ls : List (List UInt8)} (h : BB A w a n c ls) {s : Nat} {x : List UInt8} (hx : ls[s]? = some x) : ∃ b o p m q, a = some ⟨b, o, none⟩ ∧ b < w.heap.size ∧ w.cell? ⟨b, o + s, none⟩ = some (.slice p m q) ∧ BA A w p m q x := by
  obtain ⟨b, o, p, m, q, ha, hlt, hc, hb, h5⟩ := Sl.bytes h hx
  refine ⟨b, o, p, m, q, ha, hlt, hc, hb, fun hm => ?_⟩
  obtain ⟨y, cur, f, hp, hA, hh⟩ := h5 hm
  exact ⟨y, hp, hA, (Array.getElem?_eq_some_iff.1 hh).1⟩
theorem BB.bss {A : Nat → Prop} {w : World} {a : Option Addr} {n c : Nat} {ls : List (List UInt8)} (h : BB A w a n c ls) : Bss w a n c ls := by
  have hl := h.len
  refine ⟨hl, (Sl.cap h).1, (Sl.cap h).2, fun i hi => ?_⟩
  obtain ⟨b, o, p, m, q, ha, _, hc, hb⟩ := h.at (List.getElem?_eq_getElem (by omega) : ls[i]? = some _)
  refine ⟨b, o, p, m, q, ha, hc, ?_⟩
  rw [List.getD_eq_getElem?_getD, List.getElem?_eq_getElem (by omega)]
  exact hb.1
/-- What Seal answers. -/
def SealsC (U : Nat → Prop) (r : Nat) (S' : SeaS) (M : SeaM) (ls : List (List UInt8)) (w : World) (e : Ending) (w' : World) : Prop := ∃ a n c, e = .returned (.tuple #[.slice a n c, .int .i64 0]) ∧ BB (fun j => w.heap.size ≤ j) w' a n c ls ∧ Se U w' r S' M ∧ Kp U w w'

set_option maxRecDepth 100000 in
set_option maxHeartbeats 4000000 in
theorem oSeal13 (w : World) {U : Nat → Prop} {r : Nat} {S : SeaS} {M : SeaM} (h : Se U w r S M) (hok : S.Ok) {k what t : List UInt8} {ak aw at' : Option Addr} {ck nw cw nt ct : Nat} (bk : BA (fun j => ¬ U j) w ak 32 ck k) (bw : BA (fun j => ¬ U j) w aw nw cw what) (bt' : BA (fun j => ¬ U j) w at' nt ct t) (zw : nw ≤ 60) (zt : nt ≤ 2000) (hc : S.count + S.book.length + 20 ≤ 1000000) :
    Calls Tryz.prog 7 #[.pointer (some ⟨r, 0, none⟩), .slice ak 32 ck, .slice aw nw cw, .slice at' nt ct] w (SealsC U r (chS S k what t (cnt nt) (cnt nt)) M (chB S k what t (cnt nt) (cnt nt)) w) := by
  have HS : Hid (Se U w r S M) := h
  have HOK : Hid S.Ok := hok
  have HC0 : Hid (S.count + S.book.length + 20 ≤ 1000000) := hc
  have HK : Hid (BA (fun j => ¬ U j) w ak 32 ck k) := bk
  have HW : Hid (BA (fun j => ¬ U j) w aw nw cw what) := bw
  have HT : Hid (BA (fun j => ¬ U j) w at' nt ct t) := bt'
  have HTL : Hid (t.length = nt) := bt'.1.len
  have HWL : Hid (what.length = nw) := bw.1.len
  have HKL : Hid (k.length = 32) := bk.1.len
  have HC5 : Hid (cnt nt ≤ 5) := by show _ ≤ _; unfold cnt; split <;> omega
  have CC : Hid (∀ u, Calls Tryz.prog 16 #[.int .i64 (nt : Int)] u fun e w' => e = .returned (.int .i64 (cnt nt : Int)) ∧ u = w') := fun u => oCount u nt (by omega)
  have HBS : Hid (∀ u a m c, Bs u a m c what → m = nw → ∀ j : Nat, j ≤ 100 → Calls Tryz.prog 22 #[.slice a m c, .int .i64 (nt : Int), .int .i64 (j : Int)] u (Gives u (bes what j (decide (j + 1 = cnt nt))))) := fun u a m c hb hm j hj => oBeside u hb (by omega) nt j (by omega) (by omega)
  obtain ⟨C, hC⟩ : ∃ C, C = cnt nt := ⟨_, rfl⟩
  rw [← hC] at CC HC5 HBS ⊢
  have hCl : C ≤ 5 := HC5.out
  have HLT : Hid (∀ j, U j → j < w.heap.size) := h.lt
  have lr : r < w.heap.size := h.blk.lt
  clear h hok bk bw bt' hC hc
  go_enter Tryz.func7, Tryz.ntmps7
  go_wp2_with fail
  refine (CC.out w).mono ?_
  rintro e w1 ⟨rfl, rfl⟩
  go_wp2_with (at_make; refine wpList_mkB w 28 22 (.slice none 0 0) (.slice none 0 0) 1 24 Tryz.underlying28 infoBy rfl (by omega) (by omega) rfl _ _ rfl C rfl rfl (by omega) ?_; intro w2 hB2 hb2; rw [Nat.mul_one] at hB2; have HB2 : Hid (Blk w2 w.heap.size (List.replicate C (.slice none 0 0)) 22) := hB2; have HQ2 : Hid (Below w.heap.size w w2) := hb2; clear hB2 hb2)
  obtain ⟨g, hg⟩ : ∃ g, g = w.heap.size := ⟨_, rfl⟩
  have HO2 : Hid (OwS (elB fun j => w.heap.size ≤ j) 1 22 w2 w.heap.size (.slice (some ⟨g, 0, none⟩) C C) (chB S k what t C 0 ++ List.replicate (C - 0) [])) := by
    rw [hg]
    exact OwB.made HB2.out (Nat.le_refl _) (by omega)
  have hgw : w.heap.size ≤ g := by omega
  rw [← hg]
  clear hg HB2 CC
  go_loopw [29] (fun i wr => ∃ j : Nat, j ≤ C ∧ i = .int .i64 (j : Int) ∧ Hid (Se U wr r (chS S k what t C j) M) ∧ Hid (OwS (elB fun j => w.heap.size ≤ j) 1 22 wr w.heap.size (.slice (some ⟨g, 0, none⟩) C C) (chB S k what t C j ++ List.replicate (C - j) [])) ∧ Hid (Kp U w wr)) (fun i _ => C - (intOf i).toNat)
  case atStart => exact ⟨0, Nat.zero_le _, rfl, HS.out.grow HQ2.out, HO2, Kp.of_below HQ2.out⟩
  case round =>
    obtain ⟨j, hj, rfl, S1, O1, KP1⟩ := hrel
    clear HO2 HQ2
    by_cases hlt : j < C
    · have i0 : (j : Int) < (C : Int) := by omega
      go_wp2_with fail
      refine (oPart wr nt j (by omega) (by omega)).mono ?_
      rintro e w3 ⟨rfl, rfl⟩
      obtain ⟨L, hL⟩ : ∃ L, L = lo nt j := ⟨_, rfl⟩
      obtain ⟨H, hH⟩ : ∃ H, H = hi nt j := ⟨_, rfl⟩
      have hLH : L ≤ H := by rw [hL, hH]; exact lo_le nt j
      have hHn : H ≤ nt := by rw [hH]; exact hi_le nt j
      have hPL : H - L = plen nt j := by rw [hL, hH]; exact lo_hi nt j
      have hPC : (t.drop L).take (H - L) = piece t j := by
        rw [hL, hH]
        have := piece_cut t j
        rwa [HTL.out] at this
      have hp6 : H - L ≤ 496 := by rw [hPL]; exact plen_le nt j
      rw [← hL, ← hH]
      obtain ⟨a', c', hcut, hcb⟩ := BA.cut2 HT.out.1 L H hLH hHn
      have T1 : Hid (BA (fun j => ¬ U j) wr a' (H - L) c' (piece t j)) := by
        have := hcb _ wr (HT.out.kp KP1.out fun j hj => hj)
        rwa [hPC] at this
      have K1 : Hid (BA (fun j => ¬ U j) wr ak 32 ck k) := HK.out.kp KP1.out fun j hj => hj
      have W1 : Hid (BA (fun j => ¬ U j) wr aw nw cw what) := HW.out.kp KP1.out fun j hj => hj
      have OK1 : Hid (chS S k what t C j).Ok := chS_ok HOK.out k what t C j (by have := HC0.out; omega)
      have HN1 : Hid ((chS S k what t C j).count + (chS S k what t C j).book.length + 3 ≤ 1000000) := by
        show _ ≤ _
        have h1 := chS_len S k what t C j
        have h2 := chS_count S k what t C j
        have := HC0.out
        omega
      have HML : Hid ((chM S k what t C j).length = plen nt j + 16) := by show _ = _; rw [chM_length HKL.out, HTL.out]
      clear hL hH hcb hPC hPL
      obtain ⟨n9, hn9⟩ : ∃ n, n = H - L := ⟨_, rfl⟩
      rw [← hn9] at hcut T1 hp6
      clear hn9
      go_wp2_with fail
      refine regionG (S := Kp U wr) (by kernel_rfl) (Kp.of_below (Below.refl _ wr).drew) ?_
      refine takeG 0 (some 39) (.pointer (some ⟨r, 0, none⟩)) rfl rfl (by kernel_rfl) (by kernel_rfl) (by kernel_rfl) (fun _ _ _ h => h) (ans_plain (by rfl) (fun w _ => rfl)) ?_
      simp only [Act.put, List.setIfInBounds_toArray, List.set_cons_zero, List.set_cons_succ]
      refine takeG 1 (some 40) (.slice ak 32 ck) rfl rfl (by kernel_rfl) (by kernel_rfl) (by kernel_rfl) (fun _ _ _ h => h) (ans_plain (by rfl) (fun w _ => rfl)) ?_
      simp only [Act.put, List.setIfInBounds_toArray, List.set_cons_zero, List.set_cons_succ]
      refine takeG 2 (some 41) (.int .i64 (j : Int)) rfl rfl (by kernel_rfl) (by kernel_rfl) (by kernel_rfl) (fun _ _ _ h => h) (ans_plain (by rfl) (fun w _ => rfl)) ?_
      simp only [Act.put, List.setIfInBounds_toArray, List.set_cons_zero, List.set_cons_succ]
      refine takeG 4 (some 43) (.slice aw nw cw) rfl rfl (by kernel_rfl) (by kernel_rfl) (by kernel_rfl) (fun _ _ _ h => h) (ans_plain (by rfl) (fun w _ => rfl)) ?_
      simp only [Act.put, List.setIfInBounds_toArray, List.set_cons_zero, List.set_cons_succ]
      refine takeG 5 (some 44) (.int .i64 (nt : Int)) rfl rfl (by kernel_rfl) (by kernel_rfl) (by kernel_rfl) (fun _ _ _ h => h) (ans_plain (by rfl) (fun w _ => rfl)) ?_
      simp only [Act.put, List.setIfInBounds_toArray, List.set_cons_zero, List.set_cons_succ]
      refine takeG 6 (some 45) (.int .i64 (j : Int)) rfl rfl (by kernel_rfl) (by kernel_rfl) (by kernel_rfl) (fun _ _ _ h => h) (ans_plain (by rfl) (fun w _ => rfl)) ?_
      simp only [Act.put, List.setIfInBounds_toArray, List.set_cons_zero, List.set_cons_succ]
      refine takeG 8 (some 47) (.slice at' nt ct) rfl rfl (by kernel_rfl) (by kernel_rfl) (by kernel_rfl) (fun _ _ _ h => h) (ans_plain (by rfl) (fun w _ => rfl)) ?_
      simp only [Act.put, List.setIfInBounds_toArray, List.set_cons_zero, List.set_cons_succ]
      refine takeG 9 (some 48) (.int .i64 (L : Int)) rfl rfl (by kernel_rfl) (by kernel_rfl) (by kernel_rfl) (fun _ _ _ h => h) (ans_plain (by rfl) (fun w _ => rfl)) ?_
      simp only [Act.put, List.setIfInBounds_toArray, List.set_cons_zero, List.set_cons_succ]
      refine takeG 10 (some 49) (.int .i64 (H : Int)) rfl rfl (by kernel_rfl) (by kernel_rfl) (by kernel_rfl) (fun _ _ _ h => h) (ans_plain (by rfl) (fun w _ => rfl)) ?_
      simp only [Act.put, List.setIfInBounds_toArray, List.set_cons_zero, List.set_cons_succ]
      refine takeG 11 (some 50) (.slice a' n9 c') rfl rfl (by kernel_rfl) (by kernel_rfl) (by kernel_rfl) (fun _ _ _ h => h) (ans_plain (by rfl) (fun w _ => by have hc := hcut w; unfold execOp; go_simp)) ?_
      simp only [Act.put, List.setIfInBounds_toArray, List.set_cons_zero, List.set_cons_succ]
      refine callG 3 (some 42) 21 #[.tmp 41] #[3] #[.int .i64 (j : Int)] rfl rfl rfl (by rfl) (by rfl) (by kernel_rfl) Tryz.call21 fun v4 hg4 hs4 => ?_
      refine (oNonce13 v4 j (by omega)).mono ?_
      rintro e v5 ⟨an, mn, cn, rfl, on, hbn⟩
      have lmn := on.toBs.len
      rw [nonL_length] at lmn
      subst lmn
      have hq4 : Below wr.heap.size wr v4 := Grows.ofDrew hg4
      have hq5 : Below wr.heap.size wr v5 := hq4.trans (hbn.mono hq4.size)
      have N5 := on.no (U := U) (fun j hj => Nat.lt_of_lt_of_le (S1.out.lt j hj) hq4.size)
      refine ⟨_, rfl, hs4.trans (Kp.of_below hbn), ?_⟩
      simp only [Act.put, List.setIfInBounds_toArray, List.set_cons_zero, List.set_cons_succ]
      refine callG 7 (some 46) 22 #[.tmp 43, .tmp 44, .tmp 45] #[22, 3, 3] #[.slice aw nw cw, .int .i64 (nt : Int), .int .i64 (j : Int)] rfl rfl rfl (by rfl) (by rfl) (by kernel_rfl) Tryz.call22 fun v6 hg6 hs6 => ?_
      have hq6 : Below wr.heap.size wr v6 := hq5.trans (Below.mono hg6 hq5.size)
      refine (HBS.out v6 aw nw cw (W1.out.below' hq6).1 rfl j (by omega)).mono ?_
      rintro e v7 ⟨ab, mb, cb, rfl, ob, hbb⟩
      have lmb := ob.toBs.len
      rw [bes_length, HWL.out] at lmb
      have hq7 : Below wr.heap.size wr v7 := hq6.trans (hbb.mono hq6.size)
      have B7 := ob.no (U := U) (fun j hj => Nat.lt_of_lt_of_le (S1.out.lt j hj) hq6.size)
      have N7 := (N5.below' hg6).below' hbb
      refine ⟨_, rfl, hs6.trans (Kp.of_below hbb), ?_⟩
      simp only [Act.put, List.setIfInBounds_toArray, List.set_cons_zero, List.set_cons_succ]
      refine callG 12 (some 51) 20 #[.tmp 39, .tmp 40, .tmp 42, .tmp 46, .tmp 50] #[25, 22, 22, 22, 22] #[.pointer (some ⟨r, 0, none⟩), .slice ak 32 ck, .slice an 12 cn, .slice ab mb cb, .slice a' n9 c'] rfl rfl rfl (by rfl) (by rfl) (by kernel_rfl) Tryz.call20 fun v8 hg8 hs8 => ?_
      have hq8 : Below wr.heap.size wr v8 := hq7.trans (Below.mono hg8 hq7.size)
      refine (oSSeal v8 (S1.out.grow hq8) OK1.out (K1.out.below' hq8) (N7.below' hg8) (B7.below' hg8) (T1.out.below' hq8) (by omega) (by omega) HN1.out).mono ?_
      rintro e v9 ⟨as', ms, cs', rfl, oS, seS, kpS⟩
      refine ⟨_, rfl, hs8.trans kpS, ?_⟩
      simp only [Act.put, List.setIfInBounds_toArray, List.set_cons_zero, List.set_cons_succ]
      refine takeG 13 (some 38) (.tuple #[.slice as' ms cs', .int .i64 0]) rfl rfl (by kernel_rfl) (by kernel_rfl) (by kernel_rfl) (fun _ _ _ h => h) (ans_plain (by rfl) (fun w _ => rfl)) ?_
      simp only [Act.put, List.setIfInBounds_toArray, List.set_cons_zero, List.set_cons_succ]
      refine takeG 14 (some 52) (.slice as' ms cs') rfl rfl (by kernel_rfl) (by kernel_rfl) (by kernel_rfl) (fun _ _ _ h => h) (ans_plain (by rfl) (fun w _ => by unfold execOp; go_simp)) ?_
      simp only [Act.put, List.setIfInBounds_toArray, List.set_cons_zero, List.set_cons_succ]
      refine takeG 15 (some 53) (.int .i64 0) rfl rfl (by kernel_rfl) (by kernel_rfl) (by kernel_rfl) (fun _ _ _ h => h) (ans_plain (by rfl) (fun w _ => by unfold execOp; go_simp)) ?_
      simp only [Act.put, List.setIfInBounds_toArray, List.set_cons_zero, List.set_cons_succ]
      refine takeG 16 (some 16) (.slice as' ms cs') rfl rfl (by kernel_rfl) (by kernel_rfl) (by kernel_rfl) (fun _ _ _ h => h) (ans_plain (by rfl) (fun w _ => rfl)) ?_
      simp only [Act.put, List.setIfInBounds_toArray, List.set_cons_zero, List.set_cons_succ]
      refine takeG 17 (some 17) (.int .i64 0) rfl rfl (by kernel_rfl) (by kernel_rfl) (by kernel_rfl) (fun _ _ _ h => h) (ans_plain (by rfl) (fun w _ => rfl)) ?_
      simp only [Act.put, List.setIfInBounds_toArray, List.set_cons_zero, List.set_cons_succ]
      refine doneG (by kernel_rfl) fun v10 hg10 hs10 => ?_
      have E10 : Hid (Own v10 w.heap.size (.slice as' ms cs') (chM S k what t C j)) := (oS.below hg10 (Nat.le_refl _)).mono (Nat.le_trans KP1.out.size hq8.size)
      have S10 : Hid (Se U v10 r (chS S k what t C (j + 1)) M) := seS.grow hg10
      have hk10 : Kp U wr v10 := ((Kp.of_below hq8).trans kpS).trans (Kp.of_below hg10)
      have KP10 : Hid (Kp U w v10) := KP1.out.trans hk10
      have O10 : Hid (OwS (elB fun j => w.heap.size ≤ j) 1 22 v10 w.heap.size (.slice (some ⟨g, 0, none⟩) C C) (chB S k what t C j ++ List.replicate (C - j) [])) := OwB.kp O1.out hk10 HLT.out (fun j hj hu => by have := HLT.out j hu; omega)
      clear oS seS kpS hg10 hs10 hg8 hs8 hq8 hq7 hq6 hq5 hq4 hg6 hs6 hg4 hs4 N5 N7 B7 ob on hbb hbn hk10 S1 O1 KP1 K1 W1 T1 OK1 HN1 hcut lmb
      go_wp2_with fail
      refine (oFilled v10 E10.out.toBs (by have h1 := E10.out.toBs.len; rw [HML.out] at h1; have := plen_le nt j; omega)).mono ?_
      rintro e v11 ⟨gf, rfl, oF, hbF⟩
      have hb11 := Nat.le_trans KP10.out.size (Nat.le_refl v10.heap.size)
      have S11 : Hid (Se U v11 r (chS S k what t C (j + 1)) M) := S10.out.grow hbF
      have KP11 : Hid (Kp U w v11) := KP10.out.trans (Kp.of_below hbF)
      have O11 := OwB.below O10.out hbF
      obtain ⟨g', hg', hbg, hgl, ⟨cv0, hcell⟩, hfr, hset⟩ := OwB.set O11 neB5 (k := j) (by rw [List.length_append, chB_length, List.length_replicate]; omega)
      obtain rfl : g = g' := by simpa using hg'
      have F11 : B5 (fun j => w.heap.size ≤ j) v11 (some ⟨gf, 0, none⟩) 512 512 (pad (chM S k what t C j)) := oF.b5 fun j hj _ => by have := KP10.out.size; omega
      have O12 : Hid (OwS (elB fun j => w.heap.size ≤ j) 1 22 (v11.setCell ⟨g, j, none⟩ (.slice (some ⟨gf, 0, none⟩) 512 512)) w.heap.size (.slice (some ⟨g, 0, none⟩) C C) (chB S k what t C (j + 1) ++ List.replicate (C - (j + 1)) [])) := by have := hset F11; rwa [chB_set S k what t hlt] at this
      have kst : Kp (fun i => i = g) v11 (v11.setCell ⟨g, j, none⟩ (.slice (some ⟨gf, 0, none⟩) 512 512)) := Kp.of_grown (but_set v11 g j _)
      have S12 : Hid (Se U (v11.setCell ⟨g, j, none⟩ (.slice (some ⟨gf, 0, none⟩) 512 512)) r (chS S k what t C (j + 1)) M) := S11.out.kp kst fun i hu he => by have := HLT.out i hu; omega
      have KP12 : Hid (Kp U w (v11.setCell ⟨g, j, none⟩ (.slice (some ⟨gf, 0, none⟩) 512 512))) := KP11.out.newer kst fun i he => by omega
      clear hset hg' hbg O11 O10 S10 S11 KP10 KP11 F11 kst oF hbF E10 hb11
      go_wp2_with fail
      go_roundw
      case rel => exact ⟨j + 1, by omega, by go_num, S12, O12, KP12⟩
      case measure => simp [intOf]; omega
    · have i0 : ¬ (j : Int) < (C : Int) := by omega
      have hjC : j = C := by omega
      subst hjC
      have O2 : Hid (OwS (elB fun j => w.heap.size ≤ j) 1 22 wr w.heap.size (.slice (some ⟨g, 0, none⟩) j j) (chB S k what t j j)) := by
        have := O1.out
        rwa [Nat.sub_self, List.replicate_zero, List.append_nil] at this
      clear O1
      go_wp2_with fail
      go_ret2
      exact ⟨_, _, _, rfl, OwS.sl3 O2.out fun i hi _ => hi, S1.out, KP1.out⟩

end Go.Proofs.YtfknplcnfpincaaGreat

/-
  What any pieces are cut to ('cutL'), and the contract of layer 13's program's Cut. Conditions: numbers of at most 2^30; at most 100000 pieces, of at most 100000 bytes in all.
-/
namespace Go.Proofs.YtfknplcnfpincaaGreat
open Go.RowKit
set_option linter.unusedVariables false

/-- The bytes from one up to another one, where the pieces' bytes begin at 496 times first. -/
def cutL (ls : List (List UInt8)) (first : Nat) (f t : Int) : List UInt8 :=
  if (496 * first : Int) ≤ f ∧ f ≤ t ∧ t - (496 * first : Int) ≤ (ls.flatten.length : Int) then (ls.flatten.drop (f - (496 * first : Int)).toNat).take (t - f).toNat else []
theorem cutL_none {ls : List (List UInt8)} {first : Nat} {f t : Int} (h : f < (496 * first : Int) ∨ t ≤ f ∨ (ls.flatten.length : Int) < t - (496 * first : Int)) : cutL ls first f t = [] := by
  unfold cutL
  split
  · rename_i hc
    rcases h with h | h | h
    · omega
    · rw [show (t - f).toNat = 0 from by omega, List.take_zero]
    · omega
  · rfl
theorem cutL_some {ls : List (List UInt8)} {first A N : Nat} {f t : Int} (hf : f = (496 * first : Int) + A) (ht : t = f + N) (hl : A + N ≤ ls.flatten.length) : cutL ls first f t = (ls.flatten.drop A).take N := by
  unfold cutL
  rw [if_pos (by omega)]
  congr 1
  · omega
  · congr 1
    omega
/-- One piece more. -/
theorem cut_step (X p : List UInt8) (A N : Nat) : ((X ++ p).drop A).take N = (X.drop A).take N ++ (p.drop (A - X.length)).take (N - ((X.drop A).take N).length) := by
  rw [List.drop_append, List.take_append, List.length_take]
  congr 2
  omega
theorem cut_part (p : List UInt8) (ah lf K T : Nat) (hK : K = min ah p.length) (hT : T = min lf (p.length - K)) : (p.drop K).take (K + T - K) = (p.drop ah).take lf := by
  rw [Nat.add_sub_cancel_left]
  by_cases h : ah ≤ p.length
  · have e : K = ah := by omega
    subst e
    by_cases h2 : lf ≤ p.length - K
    · rw [show T = lf from by omega]
    · rw [List.take_of_length_le (by rw [List.length_drop]; omega), List.take_of_length_le (by rw [List.length_drop]; omega)]
  · rw [List.drop_of_length_le (l := p) (i := ah) (by omega), List.drop_of_length_le (by omega)]
    simp
/-- What is left to skip, and to take, behind some pieces. -/
def outK (X : List UInt8) (A N : Nat) : List UInt8 := (X.drop A).take N
theorem outK_len (X : List UInt8) (A N : Nat) : (outK X A N).length = min N (X.length - A) := by simp [outK]
theorem outK_step {X p : List UInt8} {A N K T : Nat} (hK : K = min (A - X.length) p.length) (hT : T = min (N - (outK X A N).length) (p.length - K)) : outK X A N ++ (p.drop K).take (K + T - K) = outK (X ++ p) A N := by
  rw [cut_part p (A - X.length) (N - (outK X A N).length) K T hK hT]
  exact (cut_step X p A N).symm
theorem outK_ahead {X p : List UInt8} {A K : Nat} (hK : K = min (A - X.length) p.length) : A - X.length - K = A - (X ++ p).length := by
  rw [List.length_append]
  omega
theorem outK_left {X p : List UInt8} {A N K T : Nat} (hK : K = min (A - X.length) p.length) (hT : T = min (N - (outK X A N).length) (p.length - K)) : N - (outK X A N).length - T = N - (outK (X ++ p) A N).length := by
  rw [outK_len] at hT ⊢
  rw [outK_len, List.length_append]
  omega
theorem tot_small (l : List (List UInt8)) (m : Nat) (h : ∀ x ∈ l, x.length ≤ m) : tot l ≤ m * l.length := by
  induction l with
  | nil => simp [tot]
  | cons y r ih =>
    have h1 := h y (by simp)
    have h2 := ih fun x hx => h x (by simp [hx])
    simp only [tot, List.length_cons, Nat.mul_add, Nat.mul_one]
    omega
theorem flat_take_len (ls : List (List UInt8)) (k : Nat) : (ls.take k).flatten.length ≤ ls.flatten.length := by
  rw [tot_flatten, tot_flatten]
  exact tot_take_le ls k

set_option maxRecDepth 100000 in
set_option maxHeartbeats 2000000 in
theorem oCut13 (w : World) {a : Option Addr} {m c : Nat} {ls : List (List UInt8)} (ha : Bss w a m c ls) (hz : tot ls ≤ 100000) (hm : m ≤ 100000) (first : Nat) (h1 : first ≤ 1000) (f t : Int) (f0 : -2000000000 ≤ f) (f1 : f ≤ 2000000000) (t0 : -2000000000 ≤ t) (t1 : t ≤ 2000000000) :
    Calls Tryz.prog 17 #[.slice a m c, .int .i64 (first : Int), .int .i64 f, .int .i64 t] w (Gives w (cutL ls first f t)) := by
  have g0 : ¬ (first : Int) < 0 := by omega
  by_cases c1 : f < 0
  · rw [cutL_none (Or.inl (by omega))]
    go_enter Tryz.func17, Tryz.ntmps17
    go_wp2_with fail
    go_ret
    exact Gives.mk (Own.nil _ _) (Below.refl _ _)
  by_cases c2 : t ≤ f
  · rw [cutL_none (Or.inr (Or.inl c2))]
    go_enter Tryz.func17, Tryz.ntmps17
    go_wp2_with fail
    go_ret
    exact Gives.mk (Own.nil _ _) (Below.refl _ _)
  obtain ⟨F, rfl⟩ : ∃ F : Nat, f = F := ⟨f.toNat, by omega⟩
  obtain ⟨q, hq⟩ : ∃ q, q = F / 496 := ⟨_, rfl⟩
  have hqd : (F : Int).tdiv 496 = (q : Int) := by rw [hq]; exact tdiv_nat F 496
  have hql : q ≤ 10000000 := by omega
  by_cases c3 : q < first
  · have c3' : (q : Int) < (first : Int) := by omega
    rw [cutL_none (Or.inl (by omega))]
    clear hq
    go_enter Tryz.func17, Tryz.ntmps17
    go_wp2_with fail
    go_ret
    exact Gives.mk (Own.nil _ _) (Below.refl _ _)
  have c3' : ¬ (q : Int) < (first : Int) := by omega
  obtain ⟨G, hG⟩ : ∃ G, G = 496 * first := ⟨_, rfl⟩
  have hmul : (first : Int) * 496 = (G : Int) := by omega
  obtain ⟨A, hA⟩ : ∃ A, F = G + A := ⟨F - G, by omega⟩
  have hsA : (F : Int) - (G : Int) = (A : Int) := by omega
  obtain ⟨N, hN⟩ : ∃ N : Nat, t = F + N := ⟨(t - F).toNat, by omega⟩
  have hN0 : 0 < N := by omega
  have hsN : t - (F : Int) = (N : Int) := by omega
  have hNl : N ≤ 4000000000 := by omega
  have hAl : A ≤ 4000000000 := by omega
  have HFIN : Hid (A + N ≤ ls.flatten.length → cutL ls first (F : Int) t = outK ls.flatten A N) := fun h => cutL_some (by omega) (by omega) h
  have HNON : Hid (¬ A + N ≤ ls.flatten.length → cutL ls first (F : Int) t = []) := fun h => cutL_none (Or.inr (Or.inr (by omega)))
  have HL : Hid (ls.length = m) := ha.len
  have HZ : Hid (tot ls ≤ 100000) := hz
  have HB : Hid (Bss w a m c ls) := ha
  clear hq hG hA hN ha hz
  go_enter Tryz.func17, Tryz.ntmps17
  go_wp2_with fail
  go_loopw [9, 10, 11, 42] (fun ah lf out i wr => ∃ k : Nat, k ≤ m ∧ i = .int .i64 (k : Int) ∧ (∃ ahN lfN : Nat, ah = .int .i64 (ahN : Int) ∧ lf = .int .i64 (lfN : Int) ∧ Hid (ahN = A - (ls.take k).flatten.length) ∧ Hid (lfN = N - (outK (ls.take k).flatten A N).length)) ∧ (∃ (oa : Option Addr) (on oc : Nat), out = .slice oa on oc ∧ Hid (Own wr w.heap.size (.slice oa on oc) (outK (ls.take k).flatten A N))) ∧ Below w.heap.size w wr) (fun _ _ _ i _ => m - (intOf i).toNat)
  case atStart => exact ⟨0, Nat.zero_le _, rfl, ⟨A, N, rfl, rfl, by show _ = _; simp, by show _ = _; simp [outK]⟩, ⟨none, 0, 0, rfl, by show Own _ _ _ _; simpa [outK] using Own.nil w w.heap.size⟩, Below.refl _ _⟩
  case round =>
    obtain ⟨k, hk, rfl, ⟨ah, lf, rfl, rfl, HAH, HLF⟩, ⟨oa, on, oc, rfl, ho⟩, hb⟩ := hrel
    have hahl : ah ≤ 4000000000 := by have := HAH.out; omega
    have hlfl : lf ≤ 4000000000 := by have := HLF.out; omega
    by_cases hlt : k < m
    · have i0 : (k : Int) < (m : Int) := by omega
      obtain ⟨x, o, hxa, hlx, hcell⟩ := HB.out.at (by omega)
      subst hxa
      obtain ⟨p, pm, pq, hc, hp⟩ := Bss.part hcell hb k hlt
      have hpl := hp.len
      have hpr : wr.heap.size ≥ w.heap.size := hb.size
      have hp' : Bs wr p pm pq (ls.getD k []) := hp.below hb (Nat.le_refl _)
      have hst := flat_step (l := ls) (k := k) (by rw [HL.out]; exact hlt)
      have hrm := flat_room (l := ls) (k := k) (by rw [HL.out]; exact hlt) HZ.out
      obtain ⟨K, hK⟩ : ∃ K, K = min ah pm := ⟨_, rfl⟩
      obtain ⟨T, hT⟩ : ∃ T, T = min lf (pm - K) := ⟨_, rfl⟩
      obtain ⟨D, hD⟩ : ∃ D, D = pm - K := ⟨_, rfl⟩
      obtain ⟨E, hE⟩ : ∃ E, E = K + T := ⟨_, rfl⟩
      obtain ⟨ah', hah'⟩ : ∃ a, a = ah - K := ⟨_, rfl⟩
      obtain ⟨lf', hlf'⟩ : ∃ a, a = lf - T := ⟨_, rfl⟩
      obtain ⟨pa, pc, hcut, hcb⟩ := Bs.cut2 hp' K E (by omega) (by omega)
      have HKm : Hid (K = min (A - (ls.take k).flatten.length) (ls.getD k []).length) := by show _ = _; rw [hK, HAH.out, hpl]
      have HTm : Hid (T = min (N - (outK (ls.take k).flatten A N).length) ((ls.getD k []).length - K)) := by show _ = _; rw [hT, HLF.out, hpl]
      have HSRC : Hid (Bs wr pa (E - K) pc (((ls.getD k []).drop K).take (E - K))) := hcb wr hp'
      have HNEW : Hid (outK (ls.take k).flatten A N ++ ((ls.getD k []).drop K).take (E - K) = outK (ls.take (k + 1)).flatten A N) := by
        show _ = _
        rw [hE, outK_step HKm.out HTm.out, hst]
      have HA2 : Hid (ah' = A - (ls.take (k + 1)).flatten.length) := by show _ = _; rw [hah', HAH.out, outK_ahead HKm.out, hst]
      have HL2 : Hid (lf' = N - (outK (ls.take (k + 1)).flatten A N).length) := by show _ = _; rw [hlf', HLF.out, outK_left HKm.out HTm.out, hst]
      have hrm2 : (outK (ls.take k).flatten A N).length + (((ls.getD k []).drop K).take (E - K)).length ≤ 1000000000 := by
        rw [outK_len, List.length_take, List.length_drop]
        omega
      have HRM : Hid ((outK (ls.take k).flatten A N).length + (((ls.getD k []).drop K).take (E - K)).length ≤ 1000000000) := hrm2
      have hpm : pm ≤ 1000000000 := by have h1 := hrm; rw [hpl] at h1; omega
      have b1 : K ≤ 1000000000 := by omega
      have b2 : T ≤ 4000000000 := by omega
      have b3 : D ≤ 1000000000 := by omega
      have b4 : E ≤ 5000000000 := by omega
      have b5 : ah' ≤ 4000000000 := by omega
      have b6 : lf' ≤ 4000000000 := by omega
      clear hcb hst hrm hrm2 HAH HLF HKm HTm hp hp' hcell hpl
      obtain ⟨R, hR⟩ : ∃ R, R = E - K := ⟨_, rfl⟩
      rw [← hR] at HSRC HNEW HRM hcut
      clear hR
      by_cases q1 : pm < ah
      · have q1' : (pm : Int) < (ah : Int) := by omega
        obtain rfl : K = pm := by omega
        obtain rfl : D = 0 := by omega
        obtain rfl : T = 0 := by omega
        obtain rfl : E = K := by omega
        have s1 : (ah : Int) - (E : Int) = (ah' : Int) := by omega
        obtain rfl : lf' = lf := by omega
        clear hK hT hD hE hah' hlf'
        by_cases q2 : 0 < lf'
        · have q2' : (0 : Int) < (lf' : Int) := by omega
          go_wp2_with (at_builtin; refine wpList_app wr rfl (.tmp 59) (.tmp 65) rfl w.heap.size (.slice oa on oc) _ rfl ho.out pa R pc _ rfl HSRC.out HRM.out hb.size ?_; intro v3 w3 o3 hb3; have O3 : Hid (Own w3 w.heap.size v3 (outK (ls.take (k + 1)).flatten A N)) := (by rw [HNEW.out] at o3; exact o3); clear o3)
          obtain ⟨oa3, oc3, hv3, _⟩ := O3.out.bs
          subst hv3
          go_roundw
          case rel => exact ⟨k + 1, by omega, by go_num, ⟨ah', lf', rfl, rfl, HA2, HL2⟩, ⟨_, _, _, rfl, O3⟩, hb.trans hb3⟩
          case measure => simp [intOf]; omega
        · obtain rfl : lf' = 0 := by omega
          go_wp2_with (at_builtin; refine wpList_app wr rfl (.tmp 59) (.tmp 65) rfl w.heap.size (.slice oa on oc) _ rfl ho.out pa R pc _ rfl HSRC.out HRM.out hb.size ?_; intro v3 w3 o3 hb3; have O3 : Hid (Own w3 w.heap.size v3 (outK (ls.take (k + 1)).flatten A N)) := (by rw [HNEW.out] at o3; exact o3); clear o3)
          obtain ⟨oa3, oc3, hv3, _⟩ := O3.out.bs
          subst hv3
          go_roundw
          case rel => exact ⟨k + 1, by omega, by go_num, ⟨ah', 0, rfl, rfl, HA2, HL2⟩, ⟨_, _, _, rfl, O3⟩, hb.trans hb3⟩
          case measure => simp [intOf]; omega
      · have q1' : ¬ (pm : Int) < (ah : Int) := by omega
        obtain rfl : K = ah := by omega
        obtain rfl : ah' = 0 := by omega
        have d1 : (pm : Int) - (K : Int) = (D : Int) := by omega
        by_cases q2 : D < lf
        · have q2' : (D : Int) < (lf : Int) := by omega
          obtain rfl : T = D := by omega
          have e1 : (K : Int) + (T : Int) = (E : Int) := by omega
          have s2 : (lf : Int) - (T : Int) = (lf' : Int) := by omega
          clear hK hT hD hE hah' hlf'
          go_wp2_with (at_builtin; refine wpList_app wr rfl (.tmp 59) (.tmp 65) rfl w.heap.size (.slice oa on oc) _ rfl ho.out pa R pc _ rfl HSRC.out HRM.out hb.size ?_; intro v3 w3 o3 hb3; have O3 : Hid (Own w3 w.heap.size v3 (outK (ls.take (k + 1)).flatten A N)) := (by rw [HNEW.out] at o3; exact o3); clear o3)
          obtain ⟨oa3, oc3, hv3, _⟩ := O3.out.bs
          subst hv3
          go_roundw
          case rel => exact ⟨k + 1, by omega, by go_num, ⟨0, lf', rfl, rfl, HA2, HL2⟩, ⟨_, _, _, rfl, O3⟩, hb.trans hb3⟩
          case measure => simp [intOf]; omega
        · have q2' : ¬ (D : Int) < (lf : Int) := by omega
          obtain rfl : T = lf := by omega
          obtain rfl : lf' = 0 := by omega
          have e1 : (K : Int) + (T : Int) = (E : Int) := by omega
          clear hK hT hD hE hah' hlf'
          go_wp2_with (at_builtin; refine wpList_app wr rfl (.tmp 59) (.tmp 65) rfl w.heap.size (.slice oa on oc) _ rfl ho.out pa R pc _ rfl HSRC.out HRM.out hb.size ?_; intro v3 w3 o3 hb3; have O3 : Hid (Own w3 w.heap.size v3 (outK (ls.take (k + 1)).flatten A N)) := (by rw [HNEW.out] at o3; exact o3); clear o3)
          obtain ⟨oa3, oc3, hv3, _⟩ := O3.out.bs
          subst hv3
          go_roundw
          case rel => exact ⟨k + 1, by omega, by go_num, ⟨0, 0, rfl, rfl, HA2, HL2⟩, ⟨_, _, _, rfl, O3⟩, hb.trans hb3⟩
          case measure => simp [intOf]; omega
    · have i0 : ¬ (k : Int) < (m : Int) := by omega
      have hkm : ls.take k = ls := List.take_of_length_le (by rw [HL.out]; omega)
      rw [hkm] at HAH HLF ho
      have HO : Hid (Own wr w.heap.size (.slice oa on oc) (outK ls.flatten A N)) := ho
      have HOL : Hid ((outK ls.flatten A N).length = min N (ls.flatten.length - A)) := outK_len _ _ _
      clear hkm ho
      by_cases hl0 : 0 < lf
      · have j0 : (0 : Int) < (lf : Int) := by omega
        have HE : Hid (cutL ls first (F : Int) t = []) := HNON.out (by have h1 := HLF.out; have h2 := HOL.out; omega)
        go_wp2_with fail
        go_ret
        rw [HE.out]
        exact Gives.mk (Own.nil _ _) hb
      · have j0 : ¬ (0 : Int) < (lf : Int) := by omega
        have HE : Hid (cutL ls first (F : Int) t = outK ls.flatten A N) := HFIN.out (by have h1 := HLF.out; have h2 := HOL.out; omega)
        go_wp2_with fail
        go_ret
        rw [HE.out]
        exact Gives.mk HO.out hb

end Go.Proofs.YtfknplcnfpincaaGreat

/-
  The contract of Short. No condition but that lengths fit.
-/
namespace Go.Proofs.YtfknplcnfpincaaGreat
open Go.RowKit

end Go.Proofs.YtfknplcnfpincaaGreat

/-
  The contracts of the reference's Pack and SameAll, and of Short. Conditions: of Pack as of the program's; of the others none.
-/
namespace Go.Proofs.YtfknplcnfpincaaGreat
open Go.RowKit

set_option maxHeartbeats 400000 in
theorem rPack (w : World) {a : Option Addr} {n c : Nat} {ls : List (List UInt8)} (ha : Bss w a n c ls) (hz : tot ls ≤ 100000) (hn : n ≤ 100000) :
    Calls Tryz.prog 47 #[.slice a n c] w (Gives w (packL ls)) := by
  by_cases h0 : n = 0
  · subst h0
    have e : ls = [] := List.length_eq_zero_iff.1 ha.len
    subst e
    clear ha
    go_enter Tryz.func47, Tryz.ntmps47
    go_wp2_with fail
    refine wp_loop_rounds 1 ?_; rw [rounds_succ]; go_wp2
    go_ret
    exact Gives.mk (Own.nil _ _) (Below.refl _ _)
  · obtain ⟨x, o, rfl, hx, hc⟩ := ha.at (by omega)
    have H : Hid (ls.length = n) := ha.len
    clear ha
    go_enter Tryz.func47, Tryz.ntmps47
    go_wp2_with fail
    go_loopw [3, 4] (fun v i wr => ∃ k : Nat, k ≤ n ∧ i = .int .i64 k ∧ Own wr w.heap.size v (packL (ls.take k)) ∧ Below w.heap.size w wr) (fun _ i _ => n - (intOf i).toNat)
    case atStart => exact ⟨0, Nat.zero_le _, rfl, Own.nil _ _, Below.refl _ _⟩
    case round =>
      obtain ⟨k, hk, rfl, ho, hb⟩ := hrel
      by_cases hlt : k < n
      · obtain ⟨p, m, q, c1, hp⟩ := Bss.part hc hb k hlt
        obtain ⟨r0, r1, r2⟩ := pack_room (by rw [H.out]; exact hlt) hp.len hz (by rw [H.out]; exact hn)
        have hs := hb.size
        have HS : Hid (packL (ls.take k) ++ putL m 4 ++ ls.getD k [] = packL (ls.take (k + 1))) := pack_step (by rw [H.out]; exact hlt) hp.len
        have hP := rPut 4 (m : Int) 4 wr (by omega) (by omega) (by omega) (by omega) (by omega)
        rw [Int.toNat_natCast, show (4 : Int).toNat = 4 from rfl] at hP
        have HP : Hid (Calls Tryz.prog 46 #[.int .u64 (m : Int), .int .i64 4] wr (Gives wr (putL m 4))) := hP
        clear hP
        have hC : ∀ w1, Below wr.heap.size wr w1 → ∀ w2, Below w.heap.size w1 w2 → w2.cell? ⟨x, o + k, none⟩ = some (.slice p m q) := fun w1 h1 w2 h2 => by
          rw [h2.cell (p := ⟨x, o + k, none⟩) hx, h1.cell (p := ⟨x, o + k, none⟩) (by simp; omega)]; exact c1
        have HC : Hid (∀ w1, Below wr.heap.size wr w1 → ∀ w2, Below w.heap.size w1 w2 → w2.cell? ⟨x, o + k, none⟩ = some (.slice p m q)) := hC
        clear hC
        go_wp2_with (first | (go_at_call 46; refine HP.out.mono ?_; rintro e w1 ⟨a1, m1, c1', rfl, ho1, hb1⟩) | (at_builtin; refine wpList_app _ rfl (.tmp 11) (.tmp 18) rfl w.heap.size _ _ rfl (ho.below hb1 (Nat.le_refl _)) _ _ _ _ rfl ho1.toBs r1 (Nat.le_trans hs hb1.size) ?_; intro v2 w2 ho2 hb2; have c2 := HC.out w1 hb1 w2 hb2) | (at_builtin; refine wpList_app _ rfl (.tmp 20) (.tmp 24) rfl w.heap.size _ _ rfl ho2 _ _ _ _ rfl (hp.below (hb.trans ((hb1.mono hs).trans hb2)) (Nat.le_refl _)) r2 (Nat.le_trans (Nat.le_trans hs hb1.size) hb2.size) ?_; intro v3 w3 ho3 hb3))
        go_roundw
        case rel => exact ⟨k + 1, by omega, by go_num, by rw [← HS.out]; exact ho3, hb.trans (((hb1.mono hs).trans hb2).trans hb3)⟩
        case measure => simp [intOf]; omega
      · go_wp2
        go_ret
        exact Gives.mk (pack_end H hlt ho) hb

theorem parts_inj {l m : List (List UInt8)} {n k : Nat} (H : Hid (l.length = n ∧ m.length = n)) (h : ¬ k < n) (hj : ∀ j, j < k → l.getD j [] = m.getD j []) : true = decide (l = m) := by
  symm
  rw [decide_eq_true_iff]
  obtain ⟨h1, h2⟩ := H.out
  apply List.ext_getElem (by omega)
  intro i h3 h4
  have := hj i (by omega)
  simpa [List.getD_eq_getElem?_getD, h3, h4] using this
theorem parts_no {l m : List (List UInt8)} {k : Nat} (h : ¬ l.getD k [] = m.getD k []) : false = decide (l = m) := by
  symm
  rw [decide_eq_false_iff_not]
  intro e
  subst e
  exact h rfl
theorem parts_step {l m : List (List UInt8)} {k : Nat} (H : Hid (∀ j, j < k → l.getD j [] = m.getD j [])) (h : l.getD k [] = m.getD k []) (j : Nat) (hj : j < k + 1) : l.getD j [] = m.getD j [] := by
  by_cases e : j = k
  · subst e; exact h
  · exact H.out j (by omega)
set_option maxHeartbeats 400000 in
theorem rSameAll (w : World) {a b : Option Addr} {n c n' c' : Nat} {l m : List (List UInt8)} (ha : Bss w a n c l) (hb : Bss w b n' c' m) :
    Calls Tryz.prog 10 #[.slice a n c, .slice b n' c'] w fun e w' => e = .returned (.bool (decide (l = m))) ∧ ∃ k, w' = w.drewN k := by
  have h1 := ha.max
  have h2 := hb.max
  by_cases hn : n = n'
  · subst hn
    by_cases h0 : n = 0
    · subst h0
      have e : decide (l = m) = true := by
        have e1 := ha.len
        have e2 := hb.len
        simp at e1 e2
        simp [e1, e2]
      rw [e]
      clear e ha hb
      go_enter Tryz.func10, Tryz.ntmps10
      go_wp2_with fail
      refine wp_loop_rounds 1 ?_; rw [rounds_succ]; go_wp2_with fail
      go_ret
      exact ⟨rfl, 0, rfl⟩
    · obtain ⟨x, o, rfl, hx, hc⟩ := ha.at (by omega)
      obtain ⟨y, q, rfl, hy, hd⟩ := hb.at (by omega)
      have e1 := ha.len
      have e2 := hb.len
      have H : Hid (l.length = n ∧ m.length = n) := ⟨e1, e2⟩
      clear e1 e2 ha hb
      go_enter Tryz.func10, Tryz.ntmps10
      go_wp2_with fail
      go_loopw [5] (fun i wr => ∃ k : Nat, k ≤ n ∧ i = .int .i64 k ∧ (∃ d, wr = w.drewN d) ∧ ∀ j, j < k → l.getD j [] = m.getD j []) (fun i _ => n - (intOf i).toNat)
      case atStart => exact ⟨0, Nat.zero_le _, rfl, ⟨0, rfl⟩, fun j hj => by omega⟩
      case round =>
        obtain ⟨k, hk, rfl, ⟨d, hwr⟩, hj⟩ := hrel
        by_cases hlt : k < n
        · obtain ⟨p1, m1, q1, c1, hp1⟩ := hc k hlt
          obtain ⟨p2, m2, q2, c2, hp2⟩ := hd k hlt
          have H2 : Hid (∀ j, j < k → l.getD j [] = m.getD j []) := hj
          have c1 : wr.cell? ⟨x, o + k, none⟩ = some (.slice p1 m1 q1) := by rw [hwr]; exact c1
          have c2 : wr.cell? ⟨y, q + k, none⟩ = some (.slice p2 m2 q2) := by rw [hwr]; exact c2
          have hp1 : Bs wr p1 m1 q1 (l.getD k []) := by rw [hwr]; exact hp1.drewN d
          have hp2 : Bs wr p2 m2 q2 (m.getD k []) := by rw [hwr]; exact hp2.drewN d
          have HW : Hid (wr = w.drewN d) := hwr
          clear hwr
          clear hj hc hd
          by_cases hq : l.getD k [] = m.getD k []
          · have hS : Hid (∀ d', Calls Tryz.prog 13 #[.slice p1 m1 q1, .slice p2 m2 q2] (wr.drewN d') fun e w' => e = .returned (.bool true) ∧ ∃ k, w' = (wr.drewN d').drewN k) := fun d' => by
              have := rSame (wr.drewN d') (hp1.drewN d') (hp2.drewN d')
              rw [show decide (l.getD k [] = m.getD k []) = true from by rw [decide_eq_true_iff]; exact hq] at this
              exact this
            have HQ : Hid (l.getD k [] = m.getD k []) := hq
            clear hq hp1 hp2
            go_wp2_with fail
            go_quiet ((go_at_call 13; exact Calls.quiet_of (hS.out _)))
            go_wp2_with fail
            go_roundw
            case rel => exact ⟨k + 1, by omega, by go_num, ⟨_, by rw [HW.out, World.drewN_drewN]⟩, fun j hj => parts_step H2 HQ.out j hj⟩
            case measure => simp [intOf]; omega
          · have hS : Hid (∀ d', Calls Tryz.prog 13 #[.slice p1 m1 q1, .slice p2 m2 q2] (wr.drewN d') fun e w' => e = .returned (.bool false) ∧ ∃ k, w' = (wr.drewN d').drewN k) := fun d' => by
              have := rSame (wr.drewN d') (hp1.drewN d') (hp2.drewN d')
              rw [show decide (l.getD k [] = m.getD k []) = false from by rw [decide_eq_false_iff_not]; exact hq] at this
              exact this
            have HQ : Hid (¬ l.getD k [] = m.getD k []) := hq
            clear hq hp1 hp2
            go_wp2_with fail
            go_quiet ((go_at_call 13; exact Calls.quiet_of (hS.out _)))
            go_wp2_with fail
            go_ret
            exact ⟨ret_bool (parts_no HQ.out), _, by rw [HW.out, World.drewN_drewN]⟩
        · have HW : Hid (wr = w.drewN d) := hwr
          clear hwr
          go_wp2_with fail
          go_ret
          exact ⟨ret_bool (parts_inj H hlt hj), d, HW.out⟩
  · have hq' : ((n : Int) != (n' : Int)) = true := by simp; omega
    have e : decide (l = m) = false := by
      have e1 := ha.len
      have e2 := hb.len
      simp
      intro h
      rw [h] at e1
      omega
    rw [e]
    clear e ha hb
    go_enter Tryz.func10, Tryz.ntmps10
    go_wp2_with fail
    go_ret
    exact ⟨rfl, 0, rfl⟩

end Go.Proofs.YtfknplcnfpincaaGreat
