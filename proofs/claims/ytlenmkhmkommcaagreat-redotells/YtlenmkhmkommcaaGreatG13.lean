/-
  8 texts in one. No statement of the seat is proved here.
-/
import Derived.Test.YtlenmkhmkommcaaGreatG12
import Derived.Laws.CopyOwn
import Derived.Deep.RegionHeld3
import Derived.Deep.DeepCutAuto
import Derived.Deep.MidRow
/-
  Elements as the program's values: two words in a struct. The contracts of Add and raised. No condition.
-/
namespace Go.Proofs.YtlenmkhmkommcaaGreat
open Go.RowKit

/-- The words as numbers. -/
def hN (a : Fe) : Nat := (hB a).toNat
def lN (a : Fe) : Nat := (lB a).toNat
theorem hN_lt (a : Fe) : hN a < 18446744073709551616 := (hB a).isLt
theorem lN_lt (a : Fe) : lN a < 18446744073709551616 := (lB a).isLt
theorem hN_xor (a b : Fe) : hN (a ^^^ b) = hN a ^^^ hN b := by unfold hN; rw [hB_xor, BitVec.toNat_xor]
theorem lN_xor (a b : Fe) : lN (a ^^^ b) = lN a ^^^ lN b := by unfold lN; rw [lB_xor, BitVec.toNat_xor]
theorem hN_add (a b : Fe) : bits .xor .u64 (hN a : Int) (hN b : Int) = (hN (a ^^^ b) : Int) := by
  rw [u64_xor_nat _ _ (hN_lt a) (hN_lt b), hN_xor]
theorem lN_add (a b : Fe) : bits .xor .u64 (lN a : Int) (lN b : Int) = (lN (a ^^^ b) : Int) := by
  rw [u64_xor_nat _ _ (lN_lt a) (lN_lt b), lN_xor]
theorem N_ext {a b : Fe} (h : hN a = hN b) (l : lN a = lN b) : a = b := words_ext (BitVec.eq_of_toNat_eq h) (BitVec.eq_of_toNat_eq l)

/-- An element as a value. -/
def ev (a : Fe) : Value := .agg #[.int .u64 (hN a : Int), .int .u64 (lN a : Int)]

set_option maxHeartbeats 400000 in
theorem oAddE (w : World) (a b : Fe) : Calls Tryz.prog 149 #[ev a, ev b] w fun e w' => e = .returned (ev (a ^^^ b)) ∧ Below w.heap.size w w' := by
  unfold ev
  have e1 := hN_add a b
  have e2 := lN_add a b
  generalize hN a = x1 at *
  generalize hN b = x2 at *
  generalize lN a = y1 at *
  generalize lN b = y2 at *
  generalize hN (a ^^^ b) = x3 at *
  generalize lN (a ^^^ b) = y3 at *
  go_enter Tryz.func149, Tryz.ntmps149
  go_wp2
  refine bodyPost_ret (v := .agg #[.int .u64 (x3 : Int), .int .u64 (y3 : Int)]) (by simp [results, Tryz.results149, go_sem]) rfl ⟨rfl, below3 _ _ _ _⟩

theorem ev_zero : ev 0 = .agg #[.int .u64 0, .int .u64 0] := by
  unfold ev hN lN
  rw [hB_zero, lB_zero]
  rfl
theorem zero_iff (a : Fe) : a = 0 ↔ hN a = 0 ∧ lN a = 0 := by
  constructor
  · rintro rfl
    unfold hN lN
    rw [hB_zero, lB_zero]
    exact ⟨rfl, rfl⟩
  · rintro ⟨h, l⟩
    refine N_ext ?_ ?_
    · rw [h]; unfold hN; rw [hB_zero]; rfl
    · rw [l]; unfold lN; rw [lB_zero]; rfl
theorem ww_xor (x y : BitVec 64) : bits .xor .u64 (x.toNat : Int) (y.toNat : Int) = ((x ^^^ y).toNat : Int) := by
  rw [u64_xor_nat _ _ x.isLt y.isLt, BitVec.toNat_xor]
theorem ww_shr (x : BitVec 64) (k : Nat) (d : Int) (hd : d = ((2 ^ k : Nat) : Int)) : (x.toNat : Int) / d = ((x >>> k).toNat : Int) := by
  rw [BitVec.toNat_ushiftRight, Nat.shiftRight_eq_div_pow, hd, Int.natCast_ediv]
theorem ww_shl (x : BitVec 64) (k : Nat) (d : Int) (hd : d = ((2 ^ k : Nat) : Int)) : IntKind.u64.wrap ((x.toNat : Int) * d) = ((x <<< k).toNat : Int) := by
  rw [BitVec.toNat_shiftLeft, Nat.shiftLeft_eq, hd, IntKind.wrap_u64, Int.natCast_emod, Int.natCast_mul]
  rfl
theorem rs_h (k : Nat) (dk ds : Int) (hk : dk = ((2 ^ k : Nat) : Int)) (hs : ds = ((2 ^ (64 - k) : Nat) : Int)) (h l : BitVec 64) :
    bits .xor .u64 (bits .xor .u64 (bits .xor .u64 (bits .xor .u64 ((h.toNat : Int) / dk) (IntKind.u64.wrap ((l.toNat : Int) * ds))) (IntKind.u64.wrap ((l.toNat : Int) * ds) / 2)) (IntKind.u64.wrap ((l.toNat : Int) * ds) / 4)) (IntKind.u64.wrap ((l.toNat : Int) * ds) / 128) = ((rsH k h l).toNat : Int) := by
  rw [ww_shl l (64 - k) ds hs, ww_shr h k dk hk, ww_shr _ 1 2 rfl, ww_shr _ 2 4 rfl, ww_shr _ 7 128 rfl, ww_xor, ww_xor, ww_xor, ww_xor]
  rfl
theorem rs_l (k : Nat) (dk ds : Int) (hk : dk = ((2 ^ k : Nat) : Int)) (hs : ds = ((2 ^ (64 - k) : Nat) : Int)) (h l : BitVec 64) :
    bits .xor .u64 ((l.toNat : Int) / dk) (IntKind.u64.wrap ((h.toNat : Int) * ds)) = ((rsL k h l).toNat : Int) := by
  rw [ww_shl h (64 - k) ds hs, ww_shr l k dk hk, ww_xor]
  rfl

set_option maxHeartbeats 1000000 in
theorem oRaise1 (w : World) (a : Fe) : Calls Tryz.prog 148 #[ev a, .int .i64 1] w fun e w' => e = .returned (ev (txN a 1)) ∧ Below w.heap.size w w' := by
  have e1 := rs_h 1 2 9223372036854775808 rfl rfl (hB a) (lB a)
  have e2 := rs_l 1 2 9223372036854775808 rfl rfl (hB a) (lB a)
  rw [← rsH_1] at e1
  rw [← rsL_1] at e2
  unfold ev hN lN
  generalize (hB a).toNat = x1 at *
  generalize (lB a).toNat = y1 at *
  generalize (hB (txN a 1)).toNat = x3 at *
  generalize (lB (txN a 1)).toNat = y3 at *
  have E1 : Hid (_ = _) := e1
  have E2 : Hid (_ = _) := e2
  clear e1 e2
  go_enter Tryz.func148, Tryz.ntmps148
  go_wp2
  go_region
  go_wp2
  rw [E1.out, E2.out]
  refine bodyPost_ret (v := .agg #[.int .u64 (x3 : Int), .int .u64 (y3 : Int)]) (by simp [results, Tryz.results148, go_sem]) rfl ⟨rfl, (below2 _ _ _).drew⟩
set_option maxHeartbeats 1000000 in
theorem oRaise4 (w : World) (a : Fe) : Calls Tryz.prog 148 #[ev a, .int .i64 4] w fun e w' => e = .returned (ev (txN a 4)) ∧ Below w.heap.size w w' := by
  have e1 := rs_h 4 16 1152921504606846976 rfl rfl (hB a) (lB a)
  have e2 := rs_l 4 16 1152921504606846976 rfl rfl (hB a) (lB a)
  rw [← rsH_4] at e1
  rw [← rsL_4] at e2
  unfold ev hN lN
  generalize (hB a).toNat = x1 at *
  generalize (lB a).toNat = y1 at *
  generalize (hB (txN a 4)).toNat = x3 at *
  generalize (lB (txN a 4)).toNat = y3 at *
  have E1 : Hid (_ = _) := e1
  have E2 : Hid (_ = _) := e2
  clear e1 e2
  go_enter Tryz.func148, Tryz.ntmps148
  go_wp2
  go_region
  go_wp2
  rw [E1.out, E2.out]
  refine bodyPost_ret (v := .agg #[.int .u64 (x3 : Int), .int .u64 (y3 : Int)]) (by simp [results, Tryz.results148, go_sem]) rfl ⟨rfl, (below2 _ _ _).drew⟩

end Go.Proofs.YtlenmkhmkommcaaGreat

/-
  The builtin copy of bytes into a block that is known whole, as one step of a region that draws its order. No condition; no statement of the seat is proved here.
-/
namespace Go.Proofs.YtlenmkhmkommcaaGreat
open Go.RowKit

theorem cs_sub' {l : List UInt8} {n j : Nat} {v : Value} (h : (cs (l.take n))[j]? = some v) : (cs l)[j]? = some v := by
  simp only [cs, List.getElem?_map, List.getElem?_take] at h ⊢
  by_cases hj : j < n
  · simpa [hj] using h
  · simp [hj] at h

/-- What a copy of so many bytes leaves. -/
structure Copied (w w' : World) (g off n : Nat) (vs : List Value) (l : List UInt8) (t : TypeId) : Prop where
  blk : Blk w' g (vs.take off ++ cs (l.take n) ++ vs.drop (off + n)) t
  by_ : w.grownBy w' (some g)
  size : w'.heap.size = w.heap.size

theorem Copied.other {w w' : World} {g off n : Nat} {vs : List Value} {l : List UInt8} {t : TypeId} (h : Copied w w' g off n vs l t) {k : Nat} {us : List Value} {u : TypeId} (b : Blk w k us u) (hk : k ≠ g) : Blk w' k us u := by
  unfold Blk
  rw [h.by_.block k b.lt (by simpa using hk)]
  exact b
theorem Copied.below {w w' : World} {g off n : Nat} {vs : List Value} {l : List UInt8} {t : TypeId} (h : Copied w w' g off n vs l t) {B : Nat} {a : World} (hb : Below B a w) (hg : B ≤ g) (hB : B ≤ w.heap.size) : Below B a w' :=
  hb.grown h.by_ hB (fun k hk => by simp at hk; omega)

theorem step_cp {ops : Array Oper} {o : Oper} {a : Act} {w : World} {K : Act → World → Prop} {Q : Exit → Act → World → Prop} {E : Prop} (hgd : o.guard = none) (d s : Operand)
    (ho : o.op = .call { callee := .builtin .copy, args := #[d, s], argTypes := #[26, 26] }) (g off dl dc : Nat) (hd : a.eval d = .slice (some ⟨g, off, none⟩) dl dc)
    (sp : Option Addr) (m c : Nat) (hs : a.eval s = .slice sp m c) (l : List UInt8) (hb : Bs w sp m c l) (vs : List Value) (t : TypeId) (blk : Blk w g vs t) (n : Nat) (hn : n = Nat.min m dl) (hfit : off + n ≤ vs.length) (hpos : 0 < n)
    (h : ∀ w', Copied w w' g off n vs l t → K (a.put o.dst (.int .i64 (n : Int))) w') :
    if Region.wanted o (yielded ops a.tmps) = true then Oper.wp Tryz.prog o a w K Q else E := by
  have hw : Region.wanted o (yielded ops a.tmps) = true := by simp [Region.wanted, hgd]
  rw [if_pos hw]
  have hm : n ≤ m := by rw [hn]; exact Nat.min_le_left _ _
  obtain ⟨b, so, rfl, _, _⟩ := hb.at (by omega)
  have hlen := hb.len
  have hcl : (cs (l.take n)).length = n := by rw [cs_length, List.length_take]; omega
  obtain ⟨i0, hi, hz0, hz1, hz2⟩ := info_parts info5
  have hrun := run_copy_row (P := Tryz.prog) w 26 26 o.type 5 g off dl dc ⟨b, so, none⟩ m c vs.toArray t (cs (l.take n)) Tryz.underlying26 (by rw [hi]; simp [hz1]) blk (by rw [hcl, hn]) (fun j v hj => hb.news j v (cs_sub' hj)) (by simpa [hcl] using hfit) cs_one
  rw [hcl] at hrun
  unfold Oper.wp
  simp [execOp, ho, resolve, invoke, builtin, hd, hs, hrun, Result.andThen]
  have := h (w.setRow g (vs.take off ++ (cs (l.take n) ++ vs.drop (off + n))).toArray) ⟨?_, ?_, ?_⟩
  · rw [Oper.upon_value]; simpa [goInt] using this
  · unfold Blk
    rw [setRow_heap w g _ _ t (0, 0) blk, List.append_assoc]
  · exact ⟨rfl, rfl, rfl, by simp, fun k _ hk => setRow_other w g k _ (by simpa using hk)⟩
  · simp

end Go.Proofs.YtlenmkhmkommcaaGreat

/-
  The builtin copy of bytes into a block that is known whole, as an operation of its own. No condition; no statement of the seat is proved here.
-/
namespace Go.Proofs.YtlenmkhmkommcaaGreat
open Go.RowKit

/-- Looks whether the next operation is a copy: for 'with_reducible refine' ahead of the law below. -/
theorem at_cp {args : Array Operand} {tys : Array TypeId} {ops : Array Oper} {rest : List Oper} {a : Act} {w : World} {Q : Exit → Act → World → Prop} {dst : Option Tmp} {tp : TypeId} {pos : String} {aft : Array Edge}
    (h : wpList Tryz.prog ops Q ({ dst := dst, op := .call { callee := .builtin .copy, args := args, argTypes := tys }, type := tp, pos := pos, after := aft, guard := none } :: rest) a w) : wpList Tryz.prog ops Q ({ dst := dst, op := .call { callee := .builtin .copy, args := args, argTypes := tys }, type := tp, pos := pos, after := aft, guard := none } :: rest) a w := h
/-- 'copy(block[:], b)' into a block that is known whole: as many as there are in both. -/
theorem wpList_cpm {ops : Array Oper} {rest : List Oper} {o : Oper} {a : Act} {Q : Exit → Act → World → Prop} (w : World) (hgd : o.guard = none) (d s : Operand)
    (ho : o.op = .call { callee := .builtin .copy, args := #[d, s], argTypes := #[26, 26] }) (g dl dc : Nat) (hd : a.eval d = .slice (some ⟨g, 0, none⟩) dl dc)
    (sp : Option Addr) (m c : Nat) (hs : a.eval s = .slice sp m c) (l : List UInt8) (hb : Bs w sp m c l) (vs : List Value) (t : TypeId) (blk : Blk w g vs t) (hfit : vs.length = dl)
    (h : ∀ v w', Blk w' g (cs (l.take dl) ++ vs.drop (min m dl)) t → Below g w w' → (∀ k us u, k ≠ g → Blk w k us u → Blk w' k us u) → wpList Tryz.prog ops Q rest (a.put o.dst v) w') : wpList Tryz.prog ops Q (o :: rest) a w := by
  have hl := hb.len
  obtain ⟨i0, hi, hz0, hz1, hz2⟩ := info_parts info5
  have hsz : (Tryz.prog.info? 5).map (·.size) = some 1 := by rw [hi]; simp [hz1]
  by_cases h0 : m = 0
  · subst h0
    obtain rfl : l = [] := List.length_eq_zero_iff.1 hl
    refine wpList_copy_nothing hgd d s 26 26 ho 5 Tryz.underlying26 hsz _ sp dl dc 0 c hd hs (by simp) ?_
    exact h _ w (by simpa [cs] using blk) (Below.refl _ _) (fun _ _ _ _ b => b)
  · obtain ⟨b, o', rfl, _, _⟩ := hb.at (by omega)
    have hcl : (cs (l.take dl)).length = min m dl := by rw [cs_length, List.length_take, hl, Nat.min_comm]
    refine wpList_copy_own hgd d s 26 26 ho 5 Tryz.underlying26 hsz g 0 dl dc ⟨b, o', none⟩ m c hd hs vs.toArray t blk (cs (l.take dl)) (by rw [hcl]) (fun j v hj => hb.news j v (cs_sub' hj)) (by rw [hcl]; simp; omega) cs_one ?_
    refine h _ _ ?_ ((Below.refl _ _).trans ⟨rfl, rfl, rfl, by simp [World.setRow], fun k hk => setRow_other w g k _ (by omega)⟩) (fun k us u hk b => ?_)
    · unfold Blk
      rw [setRow_heap w g _ _ t (0, 0) blk]
      simp [hcl]
    · unfold Blk
      rw [setRow_other w g k _ hk]
      exact b

end Go.Proofs.YtlenmkhmkommcaaGreat

/-
  The contract of the program's Get: the number of a row of bytes, the highest first, of the last eight. No condition.
-/
namespace Go.Proofs.YtlenmkhmkommcaaGreat
open Go.RowKit

set_option maxHeartbeats 400000 in
theorem oGet (w : World) {a : Option Addr} {n c : Nat} {l : List UInt8} (ha : Bs w a n c l) :
    Calls Tryz.prog 94 #[.slice a n c] w fun e w' => e = .returned (.int .u64 (getN l)) ∧ w = w' := by
  have h1 := ha.max
  by_cases h0 : n = 0
  · subst h0
    have e : l = [] := List.length_eq_zero_iff.1 ha.len
    subst e
    clear ha
    go_enter Tryz.func94, Tryz.ntmps94
    go_wp2
    refine wp_loop_rounds 1 ?_; rw [rounds_succ]; go_wp2
    go_ret
    exact ⟨rfl, rfl⟩
  · obtain ⟨x, o, rfl, hx, hc⟩ := ha.at (by omega)
    have H : Hid (l.length = n) := ha.len
    clear ha
    go_enter Tryz.func94, Tryz.ntmps94
    go_wp2
    go_loop [3, 8] (fun t i => ∃ k : Nat, k ≤ n ∧ i = .int .i64 k ∧ t = .int .u64 (getN (l.take k))) (fun _ i => n - (intOf i).toNat)
    case atStart => exact ⟨0, Nat.zero_le _, rfl, rfl⟩
    case round =>
      obtain ⟨k, hk, rfl, rfl⟩ := hrel
      by_cases hlt : k < n
      · have c1 := hc k hlt
        have b1 := bt_lo l k
        have b2 := bt_hi l k
        clear hc
        go_wp2
        go_round
        case rel => exact ⟨k + 1, by omega, by go_num, by rw [get_step_or (by rw [H.out]; exact hlt)]⟩
        case measure => simp [intOf]; omega
      · go_wp2
        go_ret
        exact ⟨ret_int (get_end H hlt), rfl⟩
end Go.Proofs.YtlenmkhmkommcaaGreat

/-
  The contracts of the program's From and Bytes: an element of bytes, and its bytes. No condition.
-/
namespace Go.Proofs.YtlenmkhmkommcaaGreat
open Go.RowKit

/-- Sixteen bytes of any: more count for nothing, noughts stand behind fewer. -/
def pad16 (l : List UInt8) : List UInt8 := l.take 16 ++ List.replicate (16 - min l.length 16) 0
theorem pad16_length (l : List UInt8) : (pad16 l).length = 16 := by
  unfold pad16
  rw [List.length_append, List.length_take, List.length_replicate]
  omega
theorem pad16_cs (l : List UInt8) {n : Nat} (hn : l.length = n) : cs (l.take 16) ++ (cs (List.replicate 16 0)).drop (min n 16) = cs (pad16 l) := by
  unfold pad16
  rw [cs_append, hn]
  congr 1
  unfold cs
  rw [← List.map_drop, List.drop_replicate]
theorem pad16_h (l : List UInt8) : getN ((pad16 l).take 8) = hN (feB l) := by
  rw [← feB_pad l (16 - min l.length 16), ← hB_feB (l := (pad16 l).take 8) (m := (pad16 l).drop 8) (by rw [List.length_take, pad16_length]; omega), List.take_append_drop]
  rfl
theorem pad16_l (l : List UInt8) : getN ((pad16 l).drop 8) = lN (feB l) := by
  rw [← feB_pad l (16 - min l.length 16), ← lB_feB (l := (pad16 l).take 8) (m := (pad16 l).drop 8) (by rw [List.length_take, pad16_length]; omega) (by rw [List.length_drop, pad16_length]), List.take_append_drop]
  rfl

/-- The cells of an element. -/
def ec (a : Fe) : List Value := [.int .u64 (hN a : Int), .int .u64 (lN a : Int)]
/-- An element, handed back out of a variable. -/
theorem res_el {fn : Func} {p : Tmp} (h : fn.results = #[.cell p 211]) (tmps : Array Value) (w : World) (g : Nat) (a : Fe)
    (hp : tmps.getD p undef = .pointer (some ⟨g, 0, none⟩)) (hg : Blk w g (ec a) 211) : (results fn tmps).run Tryz.prog w = .ok (ev a) w :=
  results_cell_row h tmps w g 211 (ec a).toArray (0, 0) _ hp hg Tryz.underlying211 rfl (by kernel_rfl)

set_option maxHeartbeats 1000000 in
theorem oFrom (w : World) {a : Option Addr} {n c : Nat} {l : List UInt8} (ha : Bs w a n c l) :
    Calls Tryz.prog 134 #[.slice a n c] w fun e w' => e = .returned (ev (feB l)) ∧ Below w.heap.size w w' := by
  have hall := allK
  have hlo := loK
  have hhi := hiK
  have HX : Hid (getN ((pad16 l).take 8) = hN (feB l)) := pad16_h l
  have HY : Hid (getN ((pad16 l).drop 8) = lN (feB l)) := pad16_l l
  have HP := pad16_length l
  have HE : Hid (_ = cs (pad16 l)) := pad16_cs l ha.len
  obtain ⟨X, hX⟩ : ∃ X, X = pad16 l := ⟨_, rfl⟩
  rw [← hX] at HX HY HP HE
  clear hX
  go_enter Tryz.func134, Tryz.ntmps134
  go_upto_region 2 with fail
  obtain ⟨W2, hW2⟩ : ∃ W2, W2 = (w.alloc (.cells #[.int .u64 0, .int .u64 0] 211)).alloc (.cells z16 204) := ⟨_, rfl⟩
  rw [← hW2]
  have b0 : Blk W2 w.heap.size [.int .u64 0, .int .u64 0] 211 := by rw [hW2]; exact (Blk.new w _ _).old _
  have b1 : Blk W2 (w.heap.size + 1) (cs (List.replicate 16 0)) 204 := by rw [hW2]; exact Blk.newAt (w.alloc _) z16 _ _ (by simp) _ rfl
  have hb0 : Below w.heap.size w W2 := by rw [hW2]; exact below2 w _ _
  have ha2 := ha.below hb0 (Nat.le_refl _)
  clear hW2
  go_wp2_with (with_reducible refine at_cp ?_; go_must (refine wpList_cpm W2 rfl (.tmp 4) (.tmp 5) rfl (w.heap.size + 1) 16 16 rfl a n c rfl l ha2 (cs (List.replicate 16 0)) 204 b1 rfl ?_); intro v2 w2 d1 hb2 hoth; have d0 := hoth _ _ _ (by omega) b0; have hbB := hb0.trans (hb2.mono (by omega)); clear hoth; rw [HE.out] at d1)
  have hA : Bs w2 (some ⟨w.heap.size + 1, 0, none⟩) 8 16 (X.take 8) := by
    have h8 : (X.take 8).length = 8 := by rw [List.length_take, HP]; omega
    have := d1.bs 0 16 (X.take 8) (fun j v hj => by rw [Nat.zero_add]; exact cs_sub' hj) (by omega) (by omega)
    rw [h8] at this
    exact this
  have hC : Bs w2 (some ⟨w.heap.size + 1, 8, none⟩) 8 8 (X.drop 8) := by
    have h8 : (X.drop 8).length = 8 := by rw [List.length_drop, HP]
    have := d1.bs 8 8 (X.drop 8) (fun j v hj => by
      have e : X.drop 8 = (X.drop 8).take 8 := by rw [List.take_of_length_le (by omega)]
      rw [e] at hj
      exact cs_sub hj) (by omega) (by omega)
    rw [h8] at this
    exact this
  have c0 := d0.cell 0
  have c1 := d0.cell 1
  have f0 := d0.free 0
  have f1 := d0.free 1
  have D0 : Hid (Blk w2 w.heap.size [.int .u64 0, .int .u64 0] 211) := d0
  have HBB : Hid (Below w.heap.size w w2) := hbB
  generalize X.take 8 = A at *
  generalize X.drop 8 = C at *
  clear d0 hbB hb2 d1 b0 b1 hb0 ha2 HE
  simp only [List.getElem?_cons_zero, List.getElem?_cons_succ] at c0 c1
  go_region_with (first
    | (go_at_call 94; with_reducible refine (oGet w2.drew hA.drew).mono ?_; rintro e w' ⟨rfl, rfl⟩)
    | (go_at_call 94; with_reducible refine (oGet w2.drew hC.drew).mono ?_; rintro e w' ⟨rfl, rfl⟩))
  all_goals
    go_wp2
    have b2 := (D0.out.setC 0 (.int .u64 (getN A : Int))).setC 1 (.int .u64 (getN C : Int))
    rw [HX.out, HY.out] at b2 ⊢
    exact bodyPost_ret (v := ev (feB l)) (res_el Tryz.results134 _ _ w.heap.size (feB l) rfl b2.dr) rfl ⟨rfl, ((HBB.out.setCell (Nat.le_refl _) _).setCell (Nat.le_refl _) _).drew⟩

/-- Two rows, one behind the other. -/
theorem oJoin2 (w : World) {a1 a2 : Option Addr} {n1 c1 n2 c2 : Nat} {l1 l2 : List UInt8} (h1 : Bs w a1 n1 c1 l1) (h2 : Bs w a2 n2 c2 l2) (hz : n1 + n2 ≤ 99000) :
    Calls Tryz.prog 67 #[.slice (some ⟨w.heap.size, 0, none⟩) 2 2] (w.alloc (.cells #[.slice a1 n1 c1, .slice a2 n2 c2] 26)) fun e w' =>
      ∃ a m c, e = .returned (.slice a m c) ∧ Own w' w.heap.size (.slice a m c) (l1 ++ l2) ∧ Below w.heap.size w w' := by
  have := oJoin _ (Bss.two h1 h2) (by have := h1.len; have := h2.len; simp [tot]; omega)
  refine this.mono ?_
  rintro e w' ⟨a, m, c, rfl, ho, hb⟩
  rw [show [l1, l2].flatten = l1 ++ l2 from by simp] at ho
  exact ⟨a, m, c, rfl, ho.mono (by simp), (below_alloc _ _).trans (hb.mono (by simp))⟩

set_option maxHeartbeats 1000000 in
theorem oBytesE (w : World) (a : Fe) : Calls Tryz.prog 154 #[ev a] w (Gives w (byF a)) := by
  have HB : Hid (putL (hN a) 8 ++ putL (lN a) 8 = byF a) := byF_words a
  have hx := hN_lt a
  have hy := lN_lt a
  have CX : Hid (∀ w, Calls Tryz.prog 86 #[.int .u64 (hN a : Int), .int .i64 8] w (Gives w (putL (hN a) 8))) := fun w => by
    have := oPut (hN a : Int) 8 w (by omega) (by omega) (by omega) (by omega)
    rw [Int.toNat_natCast] at this
    exact this
  have CY : Hid (∀ w, Calls Tryz.prog 86 #[.int .u64 (lN a : Int), .int .i64 8] w (Gives w (putL (lN a) 8))) := fun w => by
    have := oPut (lN a : Int) 8 w (by omega) (by omega) (by omega) (by omega)
    rw [Int.toNat_natCast] at this
    exact this
  have HLX : Hid ((putL (hN a) 8).length = 8) := putL_length 8 _
  have HLY : Hid ((putL (lN a) 8).length = 8) := putL_length 8 _
  unfold ev
  generalize putL (hN a) 8 = P at *
  generalize putL (lN a) 8 = Q at *
  generalize hN a = x1 at *
  generalize lN a = y1 at *
  go_enter Tryz.func154, Tryz.ntmps154
  go_wp2_with fail
  obtain ⟨W, hW⟩ : ∃ W, W = w.alloc (.cells #[.int .u64 (x1 : Int), .int .u64 (y1 : Int)] 211) := ⟨_, rfl⟩
  rw [← hW]
  have d0 : Blk W w.heap.size [.int .u64 (x1 : Int), .int .u64 (y1 : Int)] 211 := by rw [hW]; exact Blk.new w _ _
  have q0 : Below w.heap.size w W := by rw [hW]; exact below_alloc w _
  have k0 := d0.cell 0
  have k1 := d0.cell 1
  simp only [List.getElem?_cons_zero, List.getElem?_cons_succ] at k0 k1
  have hl := d0.lt
  clear hW d0
  go_region_held3 (fun w' => w'.cell? ⟨w.heap.size, 0, none⟩ = some (.int .u64 (x1 : Int)) ∧ w'.cell? ⟨w.heap.size, 1, none⟩ = some (.int .u64 (y1 : Int))) (first | (exact ⟨m0, m1⟩) | (exact ⟨n0, n1⟩) | (exact ⟨l0, l1⟩) | (exact ⟨k0, k1⟩) | (constructor <;> assumption) | go_keep) (first
    | (go_at_call 86; refine (CY.out w1).mono ?_; rintro e w2 ⟨a2, z2, c2, rfl, ho2, hb2⟩; have hl2 : w.heap.size < w1.heap.size := Nat.lt_of_lt_of_le hl hb1.size; have n0 := (hb2.cell (p := ⟨w.heap.size, 0, none⟩) hl2).trans l0; have n1 := (hb2.cell (p := ⟨w.heap.size, 1, none⟩) hl2).trans l1)
    | (go_at_call 86; refine (CX.out W.drew).mono ?_; rintro e w1 ⟨a1, z1, c1, rfl, ho1, hb1⟩; have l0 := (hb1.cell (p := ⟨w.heap.size, 0, none⟩) hl).trans k0; have l1 := (hb1.cell (p := ⟨w.heap.size, 1, none⟩) hl).trans k1)
    | (go_at_call 67; go_must (refine (oJoin2 w2 (ho1.toBs.below hb2 (Nat.le_refl _)) ho2.toBs (by have := ho1.toBs.len; have := ho2.toBs.len; have := HLX.out; have := HLY.out; omega)).mono ?_); rintro e w3 ⟨a3, z3, c3, rfl, ho3, hb3⟩; have hl3 : w.heap.size < w2.heap.size := Nat.lt_of_lt_of_le (Nat.lt_of_lt_of_le hl hb1.size) hb2.size; have m0 := (hb3.cell (p := ⟨w.heap.size, 0, none⟩) hl3).trans n0; have m1 := (hb3.cell (p := ⟨w.heap.size, 1, none⟩) hl3).trans n1))
  have h1 := hb1.size
  go_wp2
  go_ret
  exact Gives.mk (by rw [← HB.out]; exact ho3.mono (Nat.le_of_lt hl3)) ((q0.drew.trans (hb1.mono q0.size)).trans ((hb2.mono (Nat.le_of_lt hl2)).trans (hb3.mono (Nat.le_of_lt hl3))))

end Go.Proofs.YtlenmkhmkommcaaGreat

/-
  Variables of elements in a region that draws its order: made, and written. No condition; no statement of the seat is proved here.
-/
namespace Go.Proofs.YtlenmkhmkommcaaGreat
open Go.RowKit

abbrev z2 : Array Value := #[.int .u64 0, .int .u64 0]
theorem storeE {ops : Array Oper} {Q : Exit → Act → World → Prop} (i : Nat) (x y : Operand) {oi : Oper} {K : Act → World → Prop} {a : Act} {w : World} (hi : ops[i]? = some oi) (hd : oi.dst = none) (ho : oi.op = .store 211 x y) (hg : oi.guard = none) (g : Nat) (X : Fe) (vs : List Value) (hl : vs.length = 2) (hb : Blk w g vs 211)
    (hx : a.eval x = .pointer (some ⟨g, 0, none⟩)) (hy : a.eval y = .agg #[.int .u64 (hN X : Int), .int .u64 (lN X : Int)])
    (k : ∀ w', Blk w' g (ec X) 211 → (∀ j us u, j ≠ g → Blk w j us u → Blk w' j us u) → (∀ B a, B ≤ g → Below B a w → Below B a w') → K a w') : wpOp Tryz.prog ops Q i K a w := by
  obtain ⟨v0, v1, rfl⟩ : ∃ v0 v1, vs = [v0, v1] := by
    match vs, hl with
    | [v0, v1], _ => exact ⟨v0, v1, rfl⟩
  have c0 := hb.cell 0
  have c1 := hb.cell 1
  have f0 := hb.free 0
  have f1 := hb.free 1
  simp only [List.getElem?_cons_zero, List.getElem?_cons_succ] at c0 c1
  have hk := k ((w.setCell ⟨g, 0, none⟩ (.int .u64 (hN X : Int))).setCell ⟨g, 1, none⟩ (.int .u64 (lN X : Int))) ((hb.setC 0 _).setC 1 _) (fun j us u hj b => (b.setO hj _).setO hj _) (fun B a hB h => (h.setCell hB _).setCell hB _)
  have hK : Hid _ := hk
  clear hk k
  unfold wpOp
  simp only [hi]
  rw [if_pos (by simp [Region.wanted, hg])]
  left
  unfold Oper.wp execOp
  simp only [ho, hx, hy]
  go_simp
  exact hK.out
/-- A slice of a whole array of 16 bytes. -/
theorem ans_all {ops : Array Oper} {S : World → Prop} {oi : Oper} {a : Act} (x : Operand) (ho : oi.op = .slice 204 x none none none) (hw : Region.wanted oi (yielded ops a.tmps) = true) (g : Nat) (hx : a.eval x = .pointer (some ⟨g, 0, none⟩)) : Ans Tryz.prog ops S oi (.slice (some ⟨g, 0, none⟩) 16 16) a := by
  have hall := allK
  refine ans_plain hw fun w _ => ?_
  unfold execOp
  simp only [ho, hx]
  go_simp

/-- An element out of its variable. -/
theorem ans_ld {ops : Array Oper} {S : World → Prop} {oi : Oper} {a : Act} (x : Operand) (ho : oi.op = .load 211 x) (hw : Region.wanted oi (yielded ops a.tmps) = true) (g : Nat) (X : Fe) (hx : a.eval x = .pointer (some ⟨g, 0, none⟩)) (hb : ∀ w, S w → Blk w g (ec X) 211) : Ans Tryz.prog ops S oi (ev X) a := by
  refine ans_plain hw fun w hS => ?_
  have c0 := (hb w hS).cell 0
  have c1 := (hb w hS).cell 1
  simp only [ec, List.getElem?_cons_zero, List.getElem?_cons_succ] at c0 c1
  unfold execOp ev
  simp only [ho, hx]
  go_simp
end Go.Proofs.YtlenmkhmkommcaaGreat

/-
  Rows of a region that draws its order, for layer 6's program: whole arrays of 16 bytes, a literal of two slices, a copy, calls of a function that lies in a variable. No condition; no statement of the seat is proved here.
-/
namespace Go.Proofs.YtlenmkhmkommcaaGreat
open Go.RowKit

/-- A load of a whole array of 16 bytes. -/
theorem ans_ld16 {ops : Array Oper} {S : World → Prop} {oi : Oper} {a : Act} (x : Operand) (ho : oi.op = .load 204 x) (hw : Region.wanted oi (yielded ops a.tmps) = true) (g : Nat) (l : List UInt8) (hl : l.length = 16) (hx : a.eval x = .pointer (some ⟨g, 0, none⟩)) (hb : ∀ w, S w → Blk w g (cs l) 204) : Ans Tryz.prog ops S oi (bv l) a := by
  refine ans_plain hw fun w hS => ?_
  have hr := run_loadAt_mid (P := Tryz.prog) w g 0 204 (cs l) _ (hb w hS).whole Tryz.underlying204 rfl (by rw [sizeK, cs_length, hl])
  simp [execOp, ho, hx, hr, Result.andThen, bv]
/-- A store of a whole array of 16 bytes, the one that may come up. -/
theorem opSt16 {ops : Array Oper} {Q : Exit → Act → World → Prop} (i : Nat) (x y : Operand) {oi : Oper} {K : Act → World → Prop} {a : Act} {w : World} (hi : ops[i]? = some oi) (hd : oi.dst = none) (ho : oi.op = .store 204 x y) (hg : oi.guard = none) (g : Nat) (l : List UInt8) (hl : l.length = 16) (vs : List Value) (hv : vs.length = 16) (hb : Blk w g vs 204)
    (hx : a.eval x = .pointer (some ⟨g, 0, none⟩)) (hy : a.eval y = bv l)
    (k : ∀ w', Blk w' g (cs l) 204 → (∀ j us u, j ≠ g → Blk w j us u → Blk w' j us u) → (∀ B a, B ≤ g → Below B a w → Below B a w') → K a w') : wpOp Tryz.prog ops Q i K a w := by
  have hcl : (cs l).length = 16 := by rw [cs_length, hl]
  have hr := run_storeAt_mid (P := Tryz.prog) w g 0 204 (cs l).toArray (by rw [List.size_toArray, hcl]; exact hb.there 0 16 (by omega)) (by rw [List.size_toArray, hcl]; exact sizeK) (all_oneCell_toArray cs_one)
  have hk := k (w.setCells g 0 (cs l)) (hb.setsW _ (by omega)) (fun j us u hj b => b.setsO hj _ 0) (fun B a hB h => below_sets hB _ h 0)
  have hK : Hid _ := hk
  clear hk k
  unfold wpOp
  simp only [hi]
  rw [if_pos (by simp [Region.wanted, hg])]
  left
  unfold Oper.wp
  unfold bv at hy
  simp [execOp, ho, hx, hy, hr, Result.andThen]
  simp only [Oper.upon, hd]
  exact hK.out
/-- A literal of two slices, the one that may come up. -/
theorem opBS2 {ops : Array Oper} {Q : Exit → Act → World → Prop} {i : Nat} {oi : Oper} (d : Option Tmp) (hi : ops[i]? = some oi) (hd : oi.dst = d) (hg : oi.guard = none) (x y : Operand) (ho : oi.op = .buildSlice 147 2 #[(0, x), (1, y)]) {K : Act → World → Prop} {a : Act} {w : World} (a1 a2 : Option Addr) (n1 c1 n2 c2 : Nat) (hx : a.eval x = .slice a1 n1 c1) (hy : a.eval y = .slice a2 n2 c2)
    (k : K (a.put d (.slice (some ⟨w.heap.size, 0, none⟩) 2 2)) (w.alloc (.cells #[.slice a1 n1 c1, .slice a2 n2 c2] 26))) : wpOp Tryz.prog ops Q i K a w := by
  subst hd
  have hK : Hid _ := k
  clear k
  unfold wpOp
  simp only [hi]
  rw [if_pos (by simp [Region.wanted, hg])]
  left
  unfold Oper.wp execOp
  simp only [ho, List.map_toArray, List.map_cons, List.map_nil, hx, hy]
  go_simp
  exact hK.out
/-- A copy of bytes into a block that is known whole, the one that may come up. -/
theorem opCp {ops : Array Oper} {Q : Exit → Act → World → Prop} {i : Nat} {oi : Oper} (dd : Option Tmp) (hi : ops[i]? = some oi) (hdd : oi.dst = dd) (hgd : oi.guard = none) (d s : Operand)
    (ho : oi.op = .call { callee := .builtin .copy, args := #[d, s], argTypes := #[26, 26] }) {K : Act → World → Prop} {a : Act} {w : World} (g off dl dc : Nat) (hd : a.eval d = .slice (some ⟨g, off, none⟩) dl dc)
    (sp : Option Addr) (m c : Nat) (hs : a.eval s = .slice sp m c) (l : List UInt8) (hb : Bs w sp m c l) (vs : List Value) (t : TypeId) (blk : Blk w g vs t) (n : Nat) (hn : n = Nat.min m dl) (hfit : off + n ≤ vs.length) (hpos : 0 < n)
    (h : ∀ w', Copied w w' g off n vs l t → K (a.put dd (.int .i64 (n : Int))) w') : wpOp Tryz.prog ops Q i K a w := by
  subst hdd
  have hw : Region.wanted oi (yielded ops a.tmps) = true := by simp [Region.wanted, hgd]
  have := step_cp (ops := ops) (Q := Q) (K := K) (E := True) hgd d s ho g off dl dc hd sp m c hs l hb vs t blk n hn hfit hpos h
  rw [if_pos hw] at this
  unfold wpOp
  simp only [hi]
  rw [if_pos hw]
  exact Or.inl this
/-- The same, ahead of a last store. -/
theorem callVE {ops : Array Oper} {Q : Exit → Act → World → Prop} {md : Region.Mode} {S : World → Prop} {x : Nat} (i : Nat) (d : Option Tmp) (f : FuncId) (vs : Array Value) {oi : Oper} {fuel : Nat} {listed : Array Bool} {a : Act} {w : World} (hi : ops[i]? = some oi) (hd : oi.dst = d)
    (hw : Region.wanted oi (yielded ops a.tmps) = true) (hx : ∀ w, (execOp a.eval oi).run Tryz.prog w = .ok (.enter f vs) w) (hr : Region.ready md ops listed = [i]) (he : listed.getD x true = false)
    (h : ∀ w', Grows w w' → S w' → Calls Tryz.prog f vs w' fun e w'' => ∃ v, e = .returned v ∧ S w'' ∧ wpAnyE Tryz.prog md ops Q S x fuel (listed.setIfInBounds i true) (a.put d v) w'') : wpAnyE Tryz.prog md ops Q S x (fuel + 1) listed a w := by
  subst hd
  refine oneE i hr he fun w' hg hS => ?_
  unfold wpOp
  simp only [hi]
  rw [if_pos hw]
  left
  unfold Oper.wp
  rw [hx, Oper.upon_enter]
  refine (h w' hg hS).mono ?_
  rintro e w'' ⟨v, rfl, hs, hh⟩
  exact ⟨hs, hh⟩
/-- A call of a function that lies in a variable. -/
theorem runV {oi : Oper} {a : Act} (x : Operand) (f : FuncId) (args : Array Operand) (tys : Array TypeId) (vs : Array Value) (ho : oi.op = .call { callee := .value x, args := args, argTypes := tys }) (hx : a.eval x = .func (.func f) #[] #[]) (hv : (args.toList.map a.eval).toArray = vs) (hc : ∀ vs w, (callFunc f vs).run Tryz.prog w = .ok (.enter f vs) w) (w : World) : (execOp a.eval oi).run Tryz.prog w = .ok (.enter f vs) w := by
  have hv' : args.map a.eval = vs := by rw [← hv]; apply Array.toList_inj.1; rw [Array.toList_map]
  subst hv'
  simp [execOp, ho, resolve, invoke, hx, Deferred.ofValue, hc]
/-- Two rows, one behind the other, whose slices lie in memory. -/
theorem oJoinB (w : World) {a : Option Addr} {c : Nat} {l1 l2 : List UInt8} (h : Bss w a 2 c [l1, l2]) (hz : l1.length + l2.length ≤ 99000) : Calls Tryz.prog 67 #[.slice a 2 c] w (Gives w (l1 ++ l2)) := by
  have := oJoin w h (by simp [tot]; omega)
  rw [show [l1, l2].flatten = l1 ++ l2 from by simp] at this
  exact this

end Go.Proofs.YtlenmkhmkommcaaGreat

/-
  Contracts of layer 12's program: what a sealer tells of itself, the next noise, whether a key and a nonce fit, a new sealer; rows of regions over texts and maps. Conditions: none beside the sealer in memory.
-/
namespace Go.Proofs.YtlenmkhmkommcaaGreat
open Go.RowKit
set_option linter.unusedVariables false

/-- 'string(b)', in a region that draws. -/
theorem ans_str {ops : Array Oper} {S : World → Prop} {oi : Oper} {a : Act} (x : Operand) (ho : oi.op = .convert 26 9 x) (hw : Region.wanted oi (yielded ops a.tmps) = true) (p : Option Addr) (m c : Nat) (l : List UInt8) (hx : a.eval x = .slice p m c) (hb : ∀ w, S w → Bs w p m c l) : Ans Tryz.prog ops S oi (sv l) a :=
  ans_plain hw fun w hs => by simp [execOp, ho, hx, (hb w hs).str, Result.andThen]
/-- A map is asked, in a region that draws. -/
theorem ans_lookK {κ : Type} {kv : κ → Value} {ok : κ → Prop} {ops : Array Oper} {S : World → Prop} {oi : Oper} {a : Act} (x y : Operand) (T K E : TypeId) (ho : oi.op = Op.lookup T x y true) (hw : Region.wanted oi (yielded ops a.tmps) = true) (hK : KeyS K kv ok) (hm : Tryz.prog.underlying T = some (.map K E)) (z : Value) (hz : ∀ w, (zeroValue E).run Tryz.prog w = .ok z w)
    (m : Nat) (f : κ → Option Value) (hx : a.eval x = .map (some m)) (k : κ) (hk : ok k) (hy : a.eval y = kv k) (h : ∀ w, S w → Mks kv ok w m f) : Ans Tryz.prog ops S oi (.tuple #[(f k).getD z, .bool (f k).isSome]) a :=
  ans_plain hw fun w hs => by simp [execOp, ho, hx, hy, (h w hs).look hK hm (hz w) k hk, Result.andThen]
/-- A map is written, as one operation. -/
theorem opMsetK {κ : Type} [DecidableEq κ] {kv : κ → Value} {ok : κ → Prop} {ops : Array Oper} {Q : Exit → Act → World → Prop} (i : Nat) (T K E : TypeId) (x y z : Operand) {oi : Oper} {C : Act → World → Prop} {a : Act} {w : World} (hi : ops[i]? = some oi) (hd0 : oi.dst = none) (ho : oi.op = .mapUpdate T x y z) (hg : oi.guard = none) (hK : KeyS K kv ok) (hm : Tryz.prog.underlying T = some (.map K E))
    (m : Nat) (f : κ → Option Value) (hx : a.eval x = .map (some m)) (k : κ) (hk : ok k) (hy : a.eval y = kv k) (v : Value) (hz : a.eval z = v) (h : Mks kv ok w m f)
    (c : ∀ w', Mks kv ok w' m (updK f k v) → w.grownBy w' (some m) → C a w') : wpOp Tryz.prog ops Q i C a w := by
  obtain ⟨w', hrun, r1, r2⟩ := h.store hK hm k hk v
  have hKK : Hid _ := c w' r1 r2
  clear c
  unfold wpOp
  simp only [hi]
  rw [if_pos (by simp [Region.wanted, hg])]
  left
  unfold Oper.wp
  simp [execOp, ho, hx, hy, hz, hrun, Result.andThen]
  simp only [Oper.upon, hd0]
  exact hKK.out
/-- A literal of a struct, in a region that draws. -/
theorem ans_bdK {ops : Array Oper} {S : World → Prop} {oi : Oper} {a : Act} (ty : TypeId) (parts : List (Nat × Operand)) (vals : List (Nat × Value)) (cells : Array Value) (ho : oi.op = .build ty parts.toArray) (hw : Region.wanted oi (yielded ops a.tmps) = true) (hv : parts.map (fun p => (p.1, a.eval p.2)) = vals) (hb : Tryz.prog.built ty vals = some cells) : Ans Tryz.prog ops S oi (.agg cells) a := by
  refine ans_plain hw fun w hS => ?_
  have hr := run_build (P := Tryz.prog) w ty vals.toArray _ hb
  have e : (parts.toArray.map fun (i, x) => (i, a.eval x)) = vals.toArray := by
    rw [← hv]
    simp
  simp only [execOp, ho, e]
  simp [hr, Result.andThen]

theorem oFit (w : World) (a b : Option Addr) (n c m d : Nat) (hn : n ≤ 1000000) (hm : m ≤ 1000000) :
    Calls Tryz.prog 81 #[.slice a n c, .slice b m d] w fun e w' => e = .returned (.bool (decide (n = 32 ∧ m = 12))) ∧ w = w' := by
  by_cases h1 : n = 32
  · subst h1
    by_cases h2 : m = 12
    · subst h2
      go_enter Tryz.func81, Tryz.ntmps81
      go_wp2_with fail
      go_ret
      exact ⟨rfl, rfl⟩
    · have h3 : ((m : Int) == 12) = false := by simp; omega
      rw [show decide ((32 : Nat) = 32 ∧ m = 12) = false from by simp [h2]]
      go_enter Tryz.func81, Tryz.ntmps81
      go_wp2_with fail
      go_ret
      exact ⟨rfl, rfl⟩
  · have h3 : ((n : Int) == 32) = false := by simp; omega
    rw [show decide (n = 32 ∧ m = 12) = false from by simp [h1]]
    go_enter Tryz.func81, Tryz.ntmps81
    go_wp2_with fail
    go_ret
    exact ⟨rfl, rfl⟩
set_option maxHeartbeats 1000000 in
theorem oSNext (w : World) {U : Nat → Prop} {r : Nat} {S : SeaS} {M : SeaM} (h : Se U w r S M) (hn : S.count + S.book.length + 1 ≤ 1000000) :
    Calls Tryz.prog 110 #[.pointer (some ⟨r, 0, none⟩)] w fun e w' => e = .returned (.int .u64 ((S.count + 1 : Nat) : Int)) ∧ Se U w' r { S with count := S.count + 1 } M ∧ Kp (fun j => j = r) w w' := by
  have hc : w.cell? ⟨r, 7, none⟩ = some (.int .u64 (S.count : Int)) := h.blk.cell 7
  have hl := h.blk.lt
  have hf := h.blk.free 7
  have hb := h.bound
  obtain ⟨q, hq⟩ : ∃ q, q = S.count := ⟨_, rfl⟩
  have k : Kp (fun j => j = r) w (w.setCell ⟨r, 7, none⟩ (.int .u64 ((q + 1 : Nat) : Int))) := Kp.of_grown (but_set w r 7 _)
  have hS : Hid (Se U (w.setCell ⟨r, 7, none⟩ (.int .u64 ((q + 1 : Nat) : Int))) r { S with count := q + 1 } M) := by
    refine h.put k ?_ rfl rfl rfl (by dsimp only; omega)
    have := h.blk.setC 7 (.int .u64 ((q + 1 : Nat) : Int))
    exact this
  have HK : Hid (Kp (fun j => j = r) w (w.setCell ⟨r, 7, none⟩ (.int .u64 ((q + 1 : Nat) : Int)))) := k
  have hlt : (q : Int) + 1 = ((q + 1 : Nat) : Int) := by omega
  have hlt2 : q + 1 ≤ 1000000 := by omega
  rw [← hq] at hc ⊢
  clear h k hq hb hn
  have hy : (((q + 1 : Nat) : Int)) = (q : Int) + 1 := by omega
  rw [hy] at hS HK ⊢
  clear hlt
  go_enter Tryz.func110, Tryz.ntmps110
  go_wp2_with fail
  go_ret
  exact ⟨rfl, hS.out, HK.out⟩

end Go.Proofs.YtlenmkhmkommcaaGreat
