/-
  2 texts in one. No statement of the seat is proved here.
-/
import Derived.Test.YtfknplcnfpincaaG18

/-
  Contracts of layer 13's statements' own functions Key and Long; a text's bytes marked wherever they lie. Condition: long texts of at most 2000 bytes.
-/
namespace Go.Proofs.Ytfknplcnfpincaa
open Go.RowKit
set_option linter.unusedVariables false

def KeysC (w : World) (n : Nat) (e : Ending) (w' : World) : Prop := ∃ g, e = .returned (.slice (some ⟨g, 0, none⟩) 32 32) ∧ w.heap.size ≤ g ∧ Own w' w.heap.size (.slice (some ⟨g, 0, none⟩) 32 32) (keyC n) ∧ Below w.heap.size w w'
theorem keyC_set (n : Nat) : (List.replicate 32 (0 : UInt8)).set 31 (UInt8.ofNat n) = keyC n := rfl
theorem keyC_int {n : Nat} (h : n ≤ 255) : ((UInt8.ofNat n).toNat : Int) = (n : Int) := by
  rw [UInt8.toNat_ofNat']
  omega
set_option maxHeartbeats 1000000 in
theorem lKey13 (w : World) (n : Nat) (hn : n ≤ 255) : Calls Try.prog 11 #[.int .u8 (n : Int)] w (KeysC w n) := by
  go_enter Try.func11, Try.ntmps11
  go_wp2_with (at_make; refine wpList_mkn _ rfl _ _ rfl w.heap.size 32 _ rfl rfl rfl (by omega) (Nat.le_refl _) ?_; intro g w1 hg hgl hown hbel
               have hlen : (List.replicate 32 (0 : UInt8)).length = 32 := by simp
               obtain ⟨v0, hcell⟩ := hown.cell hlen 31 (by omega)
               have hfr := hown.free hlen 31)
  go_ret
  have hlen : (List.replicate 32 (0 : UInt8)).length = 32 := by simp
  have ho2 := hown.set hlen 31 (UInt8.ofNat n)
  rw [keyC_set] at ho2
  have hb2 := hbel.setCell (p := ⟨g, 31, none⟩) hg (.int .u8 ((UInt8.ofNat n).toNat : Int))
  rw [keyC_int hn] at ho2 hb2
  exact ⟨g, rfl, hg, ho2, hb2⟩

theorem long_in {b : List UInt8} {i : Nat} (h : i < b.length) : UInt8.ofNat (bt b i).toNat = longB b i := by
  unfold longB
  rw [if_pos h]
  unfold bt
  rw [Int.toNat_natCast]
  simp
theorem long_out {b : List UInt8} {i : Nat} (h : ¬ i < b.length) : UInt8.ofNat ((i / 7) % 256) = longB b i := by
  unfold longB
  rw [if_neg h]
  apply UInt8.toNat_inj.1
  simp
set_option maxHeartbeats 2000000 in
theorem lLong (w : World) {a : Option Addr} {m c : Nat} {b : List UInt8} (h : Bs w a m c b) (n : Nat) (hn : n ≤ 2000) (hm : m ≤ 1000000) : Calls Try.prog 9 #[.slice a m c, .int .i64 (n : Int)] w (Gives w (longL b n)) := by
  have HB : Hid (Bs w a m c b) := h
  have HL : Hid (b.length = m) := h.len
  clear h
  go_enter Try.func9, Try.ntmps9
  go_wp2_with fail
  go_loopw [5, 6] (fun out i wr => ∃ (k : Nat) (oa : Option Addr) (on oc : Nat), k ≤ n ∧ i = .int .i64 (k : Int) ∧ out = .slice oa on oc ∧ Hid (Own wr w.heap.size (.slice oa on oc) (longL b k)) ∧ Hid (Below w.heap.size w wr)) (fun _ i _ => n - (intOf i).toNat)
  case atStart => exact ⟨0, none, 0, 0, Nat.zero_le _, rfl, rfl, Own.nil _ _, Below.refl _ _⟩
  case round =>
    obtain ⟨k, oa, on, oc, hk, rfl, rfl, ho, hb⟩ := hrel
    by_cases hlt : k < n
    · have i0 : (k : Int) < (n : Int) := by omega
      obtain ⟨q, hq⟩ : ∃ q, q = k / 7 := ⟨_, rfl⟩
      have hqd : (k : Int).tdiv 7 = (q : Int) := by rw [hq]; exact tdiv_nat k 7
      have hql : q ≤ 1000 := by omega
      obtain ⟨z, hz⟩ : ∃ z, z = q % 256 := ⟨_, rfl⟩
      have hz1 : IntKind.u8.wrap (q : Int) = (z : Int) := by rw [IntKind.wrap_u8]; omega
      have hz2 : (q : Int) % 256 = (z : Int) := by omega
      have hz3 : z ≤ 255 := by omega
      have HRM : Hid ((longL b k).length + 1 ≤ 1000000000) := by show _ ≤ _; rw [longL_length]; omega
      by_cases him : k < m
      · have j0 : (k : Int) < (m : Int) := by omega
        obtain ⟨x, o, hxa, hlx, hcell⟩ := HB.out.at (by omega)
        subst hxa
        have hc : wr.cell? ⟨x, o + k, none⟩ = some (.int .u8 (bt b k)) := by
          rw [hb.out.cell (p := ⟨x, o + k, none⟩) hlx]
          exact hcell k him
        have b0 := bt_lo b k
        have b1 := bt_hi b k
        have HE : Hid (longL b k ++ [UInt8.ofNat (bt b k).toNat] = longL b (k + 1)) := by show _ = _; rw [longL_succ, long_in (by rw [HL.out]; exact him)]
        obtain ⟨y, hy⟩ : ∃ y, y = bt b k := ⟨_, rfl⟩
        rw [← hy] at hc b0 b1 HE
        have HX : Hid (Bs (wr.alloc (.cells #[.int .u8 y] 5)) (some ⟨wr.heap.size, 0, none⟩) 1 1 [UInt8.ofNat y.toNat]) := Bs.one wr y b0 b1
        have HO : Hid (Own (wr.alloc (.cells #[.int .u8 y] 5)) w.heap.size (.slice oa on oc) (longL b k)) := ho.out.below (below_alloc wr _) (Nat.le_refl _)
        have HQ : Hid (Below w.heap.size w (wr.alloc (.cells #[.int .u8 y] 5))) := hb.out.trans ((below_alloc wr _).mono hb.out.size)
        clear hcell hy hq hz
        have lx : x < wr.heap.size := lt_of_cell hc
        go_wp2_with (at_builtin; refine wpList_app (wr.alloc (.cells #[.int .u8 y] 5)) rfl (.tmp 24) (.tmp 26) rfl w.heap.size (.slice oa on oc) _ rfl HO.out (some ⟨wr.heap.size, 0, none⟩) 1 1 [UInt8.ofNat y.toNat] rfl HX.out HRM.out HQ.out.size ?_; intro v3 w3 o3 hb3; have O3 : Hid (Own w3 w.heap.size v3 (longL b (k + 1))) := (by rw [HE.out] at o3; exact o3); clear o3)
        obtain ⟨oa3, oc3, hv3, _⟩ := O3.out.bs
        subst hv3
        go_roundw
        case rel => exact ⟨k + 1, _, _, _, by omega, by go_num, rfl, O3, HQ.out.trans hb3⟩
        case measure => simp [intOf]; omega
      · have j0 : ¬ (k : Int) < (m : Int) := by omega
        have HE : Hid (longL b k ++ [UInt8.ofNat (z : Int).toNat] = longL b (k + 1)) := by show _ = _; rw [longL_succ, Int.toNat_natCast, hz, hq, long_out (by rw [HL.out]; exact him)]
        have HX : Hid (Bs (wr.alloc (.cells #[.int .u8 (z : Int)] 5)) (some ⟨wr.heap.size, 0, none⟩) 1 1 [UInt8.ofNat (z : Int).toNat]) := Bs.one wr (z : Int) (by omega) (by omega)
        have HO : Hid (Own (wr.alloc (.cells #[.int .u8 (z : Int)] 5)) w.heap.size (.slice oa on oc) (longL b k)) := ho.out.below (below_alloc wr _) (Nat.le_refl _)
        have HQ : Hid (Below w.heap.size w (wr.alloc (.cells #[.int .u8 (z : Int)] 5))) := hb.out.trans ((below_alloc wr _).mono hb.out.size)
        clear hq hz
        go_wp2_with (at_builtin; refine wpList_app (wr.alloc (.cells #[.int .u8 (z : Int)] 5)) rfl (.tmp 24) (.tmp 26) rfl w.heap.size (.slice oa on oc) _ rfl HO.out (some ⟨wr.heap.size, 0, none⟩) 1 1 [UInt8.ofNat (z : Int).toNat] rfl HX.out HRM.out HQ.out.size ?_; intro v3 w3 o3 hb3; have O3 : Hid (Own w3 w.heap.size v3 (longL b (k + 1))) := (by rw [HE.out] at o3; exact o3); clear o3)
        obtain ⟨oa3, oc3, hv3, _⟩ := O3.out.bs
        subst hv3
        go_roundw
        case rel => exact ⟨k + 1, _, _, _, by omega, by go_num, rfl, O3, HQ.out.trans hb3⟩
        case measure => simp [intOf]; omega
    · have i0 : ¬ (k : Int) < (n : Int) := by omega
      obtain rfl : k = n := by omega
      go_wp2_with fail
      go_ret
      exact Gives.mk ho.out hb.out

/-- '[]byte("..")': the row gets its mark, wherever it lies. -/
theorem run_conv_at (w : World) (g n c : Nat) (C : Array Value) (h : w.heap[g]? = some (.cells C 5)) : Sem.run Try.prog (convert 22 22 (.slice (some ⟨g, 0, none⟩) n c)) w = .ok (.slice (some ⟨g, 0, none⟩) n c) (w.freeze ⟨g, C.size, none⟩ 1) := by
  have hsh : w.shape? g = some (5, C.size) := by
    unfold World.shape?
    rw [h]
  simp [convert, run_underlying Try.underlying22, run_underlying Try.underlying5, markStringish, hsh]
theorem freeze_kp (w : World) (g k : Nat) : Kp (fun j => j = g) w (w.freeze ⟨g, k, none⟩ 1) := by
  unfold World.freeze
  rw [if_neg (by decide)]
  refine ⟨rfl, rfl, rfl, by simp, fun j hj hn => ?_⟩
  show (w.heap.modify g _)[j]? = _
  rw [Array.getElem?_modify, if_neg (fun e => hn e.symm)]
theorem freeze_blk (w : World) (g : Nat) (C : Array Value) (h : w.heap[g]? = some (.cells C 5)) : (w.freeze ⟨g, C.size, none⟩ 1).heap[g]? = some (.cells C 5 (C.size, C.size + 1)) := by
  unfold World.freeze
  rw [if_neg (by decide)]
  show (w.heap.modify g _)[g]? = _
  rw [Array.getElem?_modify, if_pos rfl, h]
  rfl
/-- A literal of one byte, wherever it comes. -/
theorem opLitB {ops : Array Oper} {Q : Exit → Act → World → Prop} {i : Nat} {oi : Oper} (d : Option Tmp) (hi : ops[i]? = some oi) (hd : oi.dst = d) (hg : oi.guard = none) (z : Int) (ho : oi.op = .buildSlice 22 1 #[(0, .const (.int .u8 z))]) {K : Act → World → Prop} {a : Act} {w : World}
    (k : K (a.put d (.slice (some ⟨w.heap.size, 0, none⟩) 1 1)) (w.alloc (.cells #[.int .u8 z] 5))) : wpOp Try.prog ops Q i K a w := by
  subst hd
  have hK : Hid _ := k
  clear k
  unfold wpOp
  simp only [hi]
  rw [if_pos (by simp [Region.wanted, hg])]
  left
  unfold Oper.wp execOp
  simp only [ho]
  go_simp
  exact hK.out
/-- Its mark, wherever it comes. -/
theorem opConv {ops : Array Oper} {Q : Exit → Act → World → Prop} {i : Nat} {oi : Oper} (d : Option Tmp) (hi : ops[i]? = some oi) (hd : oi.dst = d) (hg : oi.guard = none) (x : Operand) (ho : oi.op = .convert 22 22 x) {K : Act → World → Prop} {a : Act} {w : World} (g n c : Nat) (C : Array Value) (hx : a.eval x = .slice (some ⟨g, 0, none⟩) n c) (h : w.heap[g]? = some (.cells C 5))
    (k : K (a.put d (.slice (some ⟨g, 0, none⟩) n c)) (w.freeze ⟨g, C.size, none⟩ 1)) : wpOp Try.prog ops Q i K a w := by
  subst hd
  have hr := run_conv_at w g n c C h
  unfold wpOp
  simp only [hi]
  rw [if_pos (by simp [Region.wanted, hg])]
  left
  unfold Oper.wp execOp
  simp only [ho, hx, hr, Sem.run_bind, Sem.run_pure, Result.andThen_ok]
  exact k
theorem Bs.ofMark {w : World} {g : Nat} {l : List UInt8} {f : Nat × Nat} {C : Array Value} (h : w.heap[g]? = some (.cells C 5 f)) (hC : C.toList = cs l) (hl : l.length ≤ 1000000) : Bs w (some ⟨g, 0, none⟩) l.length l.length l := by
  refine ⟨rfl, Nat.le_refl _, by unfold maxLen; omega, by simp, fun i hi => ⟨g, 0, rfl, ?_⟩⟩
  rw [Nat.zero_add, cell_of_row w g i C 5 f h, ← Array.getElem?_toList, hC, cs_get hi]
/-- A block among others, and where it lies. -/
theorem BB.at2 {A : Nat → Prop} {w : World} {a : Option Addr} {n c : Nat} {ls : List (List UInt8)} (h : BB A w a n c ls) {s : Nat} {x : List UInt8} (hx : ls[s]? = some x) : ∃ b o p m q, a = some ⟨b, o, none⟩ ∧ b < w.heap.size ∧ A b ∧ w.cell? ⟨b, o + s, none⟩ = some (.slice p m q) ∧ BA A w p m q x := by
  obtain ⟨b, o, p, m, q, ha, hlt, hc, hb⟩ := h.at hx
  have hs : s < ls.length := (List.getElem?_eq_some_iff.1 hx).1
  obtain ⟨_, _, hl, _, _, _, h5⟩ := h
  obtain ⟨b', o', ha', _, hA, _⟩ := h5 (by omega)
  rw [ha] at ha'
  obtain ⟨rfl, _⟩ : b = b' ∧ o = o' := by simpa using ha'
  exact ⟨b, o, p, m, q, ha, hlt, hA, hc, hb⟩

end Go.Proofs.Ytfknplcnfpincaa

/-
  The contract of layer 12's program's New: a sealer, its book empty. No condition.
-/
namespace Go.Proofs.Ytfknplcnfpincaa
open Go.RowKit
set_option linter.unusedVariables false

def noneK {κ : Type} : κ → Option Value := fun _ => none
theorem fst_new (i : Bool) : fstK (SeaS.new i) = noneK := rfl
theorem kid_new (i : Bool) : kidK (SeaS.new i) = noneK := rfl
theorem txt_new (i : Bool) : TxtK (SeaS.new i) noneK := fun o => rfl
theorem builtBook (m1 m2 : Option Nat) : Try.prog.built 57 [(1, .map m1), (2, .map m2)] = some #[.int .i64 0, .map m1, .map m2] := by kernel_rfl
theorem builtSea (b : Bool) (c m1 m2 : Value) : Try.prog.built 62 [(0, .bool b), (2, .agg #[c, m1, m2])] = some #[.bool b, .pointer none, c, m1, m2, .bool false, .bool false, .int .u64 0, .map none] := by kernel_rfl
theorem mkP (w : World) : Sem.run Try.prog (Instr.makeMap 54 none) w = .ok (.map (some w.heap.size)) (w.alloc (.map #[] 0)) := rfl
theorem mkO (w : World) : Sem.run Try.prog (Instr.makeMap 55 none) w = .ok (.map (some w.heap.size)) (w.alloc (.map #[] 0)) := rfl
theorem mkE (w : World) : Sem.run Try.prog (Instr.makeMap 60 none) w = .ok (.map (some w.heap.size)) (w.alloc (.map #[] 0)) := rfl

set_option maxHeartbeats 1000000 in
theorem oNewBook (w : World) : Calls Try.prog 23 #[] w fun e w' => ∃ m1 m2, e = .returned (.agg #[.int .i64 0, .map (some m1), .map (some m2)]) ∧ m1 ≠ m2 ∧ w.heap.size ≤ m1 ∧ w.heap.size ≤ m2 ∧ Mks kvP okKP w' m1 noneK ∧ Mks kvO okKO w' m2 noneK ∧ Below w.heap.size w w' := by
  have h1 := mkP
  have h2 := mkO
  have h3 := builtBook
  go_enter Try.func23, Try.ntmps23
  go_wp2_with fail
  refine bodyPost_ret (results_cell_row rfl _ _ w.heap.size 57 #[.int .i64 0, .map (some (w.heap.size + 1)), .map (some (w.heap.size + 1 + 1))] (0, 0) _ rfl (((Blk.new w _ _).old _).old _) Try.underlying57 rfl (by kernel_rfl)) rfl ?_
  refine ⟨_, _, rfl, by omega, by omega, by omega, ?_, ?_, ?_⟩
  · have h := Mks.new kvP okKP (w.alloc (.cells #[.int .i64 0, .map (some (w.heap.size + 1)), .map (some (w.heap.size + 1 + 1))] 57))
    have e : (w.alloc (.cells #[.int .i64 0, .map (some (w.heap.size + 1)), .map (some (w.heap.size + 1 + 1))] 57)).heap.size = w.heap.size + 1 := by simp
    rw [e] at h
    exact h.same (heap_alloc_old _ _ h.lt)
  · have h := Mks.new kvO okKO ((w.alloc (.cells #[.int .i64 0, .map (some (w.heap.size + 1)), .map (some (w.heap.size + 1 + 1))] 57)).alloc (.map #[] 0))
    have e : ((w.alloc (.cells #[.int .i64 0, .map (some (w.heap.size + 1)), .map (some (w.heap.size + 1 + 1))] 57)).alloc (.map #[] 0)).heap.size = w.heap.size + 1 + 1 := by simp
    rw [e] at h
    exact h
  · exact ((below_alloc w _).trans ((below_alloc _ _).mono (below_alloc w _).size)).trans ((below_alloc _ _).mono (by simp; omega))

/-- What a new sealer is. -/
def NewS (i : Bool) (w : World) (e : Ending) (w' : World) : Prop := ∃ r U M, e = .returned (.pointer (some ⟨r, 0, none⟩)) ∧ Se U w' r (SeaS.new i) M ∧ (∀ j, U j → w.heap.size ≤ j) ∧ Below w.heap.size w w'
theorem seC_new (i : Bool) (M : SeaM) : seC (SeaS.new i) M = [.bool i, .pointer M.tb, .int .i64 0, .map (some M.m1), .map (some M.m2), .bool false, .bool false, .int .u64 0, .map M.ks] := rfl

set_option maxHeartbeats 1000000 in
theorem oSNew (i : Bool) (w : World) : Calls Try.prog 8 #[.bool i] w (NewS i w) := by
  have h1 := mkE
  have h3 := builtSea
  cases i with
  | true =>
    go_enter Try.func8, Try.ntmps8
    go_wp2_with fail
    refine (oNewBook w).mono ?_
    rintro e w1 ⟨m1, m2, rfl, hne, hm1, hm2, k1, k2, hb1⟩
    go_wp2_with fail
    go_ret
    have hB : Blk ((w1.alloc (.cells #[.bool true, .pointer none, .int .i64 0, .map (some m1), .map (some m2), .bool false, .bool false, .int .u64 0, .map (some (w1.heap.size + 1))] 62)).alloc (.map #[] 0)) w1.heap.size (seC (SeaS.new true) ⟨m1, m2, none, some (w1.heap.size + 1)⟩) 62 := (Blk.new w1 _ _).old _
    have h3 := Mks.new kvP okKP (w1.alloc (.cells #[.bool true, .pointer none, .int .i64 0, .map (some m1), .map (some m2), .bool false, .bool false, .int .u64 0, .map (some (w1.heap.size + 1))] 62))
    have e : (w1.alloc (.cells #[.bool true, .pointer none, .int .i64 0, .map (some m1), .map (some m2), .bool false, .bool false, .int .u64 0, .map (some (w1.heap.size + 1))] 62)).heap.size = w1.heap.size + 1 := by simp
    rw [e] at h3
    have l1 := k1.lt
    have l2 := k2.lt
    have hs := hb1.size
    have q : Below w1.heap.size w1 ((w1.alloc (.cells #[.bool true, .pointer none, .int .i64 0, .map (some m1), .map (some m2), .bool false, .bool false, .int .u64 0, .map (some (w1.heap.size + 1))] 62)).alloc (.map #[] 0)) := (below_alloc w1 _).trans ((below_alloc _ _).mono (below_alloc w1 _).size)
    generalize (w1.alloc (.cells #[.bool true, .pointer none, .int .i64 0, .map (some m1), .map (some m2), .bool false, .bool false, .int .u64 0, .map (some (w1.heap.size + 1))] 62)).alloc (.map #[] 0) = w9 at *
    have l3 := h3.lt
    refine ⟨w1.heap.size, fun j => w.heap.size ≤ j ∧ j < w9.heap.size, ⟨m1, m2, none, some (w1.heap.size + 1)⟩, rfl, ⟨fun j hj => hj.2, ⟨hs, by omega⟩, hB, ⟨hm1, by dsimp only; omega⟩, ⟨hm2, by dsimp only; omega⟩, hne, k1.same (q.block _ l1), ⟨noneK, k2.same (q.block _ l2), txt_new true⟩, fun _ => ⟨w1.heap.size + 1, rfl, ⟨by omega, l3⟩, by dsimp only; omega, by dsimp only; omega, h3⟩, fun h => (by cases h), by decide⟩, fun j hj => hj.1, hb1.trans (q.mono hs)⟩
  | false =>
    go_enter Try.func8, Try.ntmps8
    go_wp2_with fail
    refine (oNewBook w).mono ?_
    rintro e w1 ⟨m1, m2, rfl, hne, hm1, hm2, k1, k2, hb1⟩
    go_wp2_with fail
    refine (oBuild _).mono ?_
    rintro e w2 ⟨g, rfl, hg, hT, hb2⟩
    have hlg : g < w2.heap.size := hT.lt
    have l1 := k1.lt
    have l2 := k2.lt
    have hs := hb1.size
    have hB1 := (Blk.new w1 #[.bool false, .pointer none, .int .i64 0, .map (some m1), .map (some m2), .bool false, .bool false, .int .u64 0, .map none] 62)
    have q1 : Below w1.heap.size w1 w2 := (below_alloc w1 _).trans (hb2.mono (below_alloc w1 _).size)
    have hB2 : Blk w2 w1.heap.size [.bool false, .pointer none, .int .i64 0, .map (some m1), .map (some m2), .bool false, .bool false, .int .u64 0, .map none] 62 := hB1.below hb2 hB1.lt
    have hgr : g ≠ w1.heap.size := fun e => by
      rw [e] at hT
      unfold Blk at hT hB2
      rw [hB2] at hT
      simp only [Option.some.injEq, Obj.cells.injEq] at hT
      exact absurd hT.2.1 (by decide)
    have hg1 : w1.heap.size ≤ g := Nat.le_trans (below_alloc w1 _).size hg
    have c1 : w2.cell? ⟨w1.heap.size, 1, none⟩ = some (.pointer none) := hB2.cell 1
    have f1 := hB2.free 1
    have lr := hB2.lt
    have hB3 : Hid (Blk (w2.setCell ⟨w1.heap.size, 1, none⟩ (.pointer (some ⟨g, 0, none⟩))) w1.heap.size (seC (SeaS.new false) ⟨m1, m2, some ⟨g, 0, none⟩, none⟩) 62) := hB2.setC 1 _
    have HT : Hid (Blk (w2.setCell ⟨w1.heap.size, 1, none⟩ (.pointer (some ⟨g, 0, none⟩))) g (cs tabT) 76) := hT.setO (p := ⟨w1.heap.size, 1, none⟩) hgr _
    have Q : Hid (Below w1.heap.size w1 (w2.setCell ⟨w1.heap.size, 1, none⟩ (.pointer (some ⟨g, 0, none⟩)))) := q1.setCell (p := ⟨w1.heap.size, 1, none⟩) (Nat.le_refl _) _
    have hz : (w2.setCell ⟨w1.heap.size, 1, none⟩ (.pointer (some ⟨g, 0, none⟩))).heap.size = w2.heap.size := by simp [World.setCell]
    clear hg hT hb2 hB1 q1 hB2
    go_wp2_with fail
    go_ret
    generalize w2.setCell ⟨w1.heap.size, 1, none⟩ (.pointer (some ⟨g, 0, none⟩)) = w9 at *
    exact ⟨w1.heap.size, fun j => w.heap.size ≤ j ∧ j < w9.heap.size, ⟨m1, m2, some ⟨g, 0, none⟩, none⟩, rfl, ⟨fun j hj => hj.2, ⟨hs, by omega⟩, hB3.out, ⟨hm1, by dsimp only; omega⟩, ⟨hm2, by dsimp only; omega⟩, hne, k1.same (Q.out.block _ l1), ⟨noneK, k2.same (Q.out.block _ l2), txt_new false⟩, fun h => (by cases h), fun _ => ⟨g, rfl, ⟨by omega, by omega⟩, HT.out⟩, by decide⟩, fun j hj => hj.1, hb1.trans (Q.out.mono hs)⟩

end Go.Proofs.Ytfknplcnfpincaa
