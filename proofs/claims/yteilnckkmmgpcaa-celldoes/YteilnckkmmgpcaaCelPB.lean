/-
  Contracts of layer 10's program: put, which writes a sector wholly. Conditions: there is such a sector, the bytes are at most 1024; fewer than 2^40 writes.
-/
import Derived.Test.YteilnckkmmgpcaaCelPA
import Derived.Test.YteilnckkmmgpcaaCpM
import Derived.Test.YteilnckkmmgpcaaGrowT
namespace Go.Proofs.Yteilnckkmmgpcaa
open Go.RowKit

/-- A sector of noughts. -/
def zSec : Array Value := (cs z1k).toArray
theorem zSec_ne : ¬ zSec = #[] := by
  intro h
  have := congrArg Array.size h
  unfold zSec at this
  rw [List.size_toArray, cs_length, z1k_length] at this
  simp at this
set_option maxRecDepth 100000 in
theorem zeroSec (w : World) : Sem.run Try.prog (zeroValue 58) w = .ok (.agg zSec) w := by kernel_rfl
theorem sizeSec : (Try.prog.info? 58).map (·.size) = some 1024 := by kernel_rfl
attribute [local go_sem] zeroSec
theorem cs_fitK {b : List UInt8} (h : b.length ≤ 1024) : cs (b.take 1024) ++ (cs z1k).drop (min b.length 1024) = cs (fitK b) := by
  rw [fitK_eq h, List.take_of_length_le h, cs_append, Nat.min_eq_left h]
  congr 1
  unfold cs z1k
  rw [← List.map_drop, List.drop_replicate]
/-- What stands in the cell behind a write. -/
theorem celC_put (r : Nat) {L S : List UInt8} (n : Nat) {k : Nat} (hL : L.length = 4096) (hS : S.length = 1024) (hk : k < 4) : (celC r L n).take (1 + k * 1024) ++ cs S ++ (celC r L n).drop (1 + k * 1024 + (cs S).length) = celC r (L.take (k * 1024) ++ S ++ L.drop (k * 1024 + 1024)) n := by
  unfold celC
  rw [cs_length, hS, Nat.add_comm 1, List.take_succ_cons, show k * 1024 + 1 + 1024 = (k * 1024 + 1024) + 1 from by omega, List.drop_succ_cons, List.take_append_of_le_length (by rw [cs_length]; omega), List.drop_append_of_le_length (by rw [cs_length]; omega)]
  simp only [cs_append, List.cons_append, List.append_assoc]
  unfold cs
  rw [List.map_take, List.map_drop]
theorem celC_setN (r : Nat) {L : List UInt8} (n : Nat) (hL : L.length = 4096) : (celC r L n).set 4097 (.int .i64 ((n : Int) + 1)) = celC r L (n + 1) := by
  unfold celC
  rw [List.set_cons_succ, List.set_append_right _ _ (by rw [cs_length]; omega), cs_length, hL]
  rfl
theorem flat_put {l : List (List UInt8)} {S : List UInt8} {k : Nat} (hl : l.length = 4) (hs : ∀ x ∈ l, x.length = 1024) (hk : k < 4) : l.flatten.take (k * 1024) ++ S ++ l.flatten.drop (k * 1024 + 1024) = (l.set k S).flatten := by
  match l, hl with
  | [a, b, c, d], _ =>
    have h1 := hs a (by simp)
    have h2 := hs b (by simp)
    have h3 := hs c (by simp)
    have h4 := hs d (by simp)
    match k, hk with
    | 0, _ => simp [h1]
    | 1, _ => simp [List.drop_append, h1, h2, List.drop_eq_nil_of_le]
    | 2, _ => simp [List.take_append, List.drop_append, h1, h2, h3, List.take_of_length_le, List.drop_eq_nil_of_le]
    | 3, _ => simp [List.take_append, h1, h2, h3, h4, List.take_of_length_le, List.drop_eq_nil_of_le]
/-- A store of an array into a place of a variable. -/
theorem opStM {ops : Array Oper} {Q : Exit → Act → World → Prop} (i : Nat) (ty : TypeId) (x y : Operand) (n : Nat) {oi : Oper} {K : Act → World → Prop} {a : Act} {w : World} (hi : ops[i]? = some oi) (hd : oi.dst = none) (ho : oi.op = .store ty x y) (hg : oi.guard = none) (g o : Nat) (us vs : List Value) (t : TypeId) (hb : Blk w g us t) (hn : o + n ≤ us.length) (hm : vs.length = n) (h1 : ∀ v ∈ vs, v.oneCell' = true) (hz : (Try.prog.info? ty).map (·.size) = some n)
    (hx : a.eval x = .pointer (some ⟨g, o, none⟩)) (hy : a.eval y = .agg vs.toArray)
    (k : ∀ w', Blk w' g (us.take o ++ vs ++ us.drop (o + vs.length)) t → Kp (fun j => j = g) w w' → K a w') : wpOp Try.prog ops Q i K a w := by
  have hr := run_storeAt_mid (P := Try.prog) w g o ty vs.toArray (by rw [List.size_toArray, hm]; exact hb.there o n hn) (by rw [List.size_toArray, hm]; exact hz) (all_oneCell_toArray h1)
  have hkp : Kp (fun j => j = g) w (w.setCells g o vs) := by
    have hh : ∀ (us : List Value) (w0 : World) (o : Nat), Kp (fun j => j = g) w0 (w0.setCells g o us) := by
      intro us
      induction us with
      | nil => intro w0 o; exact Kp.refl _ _
      | cons u us ih => intro w0 o; exact (Kp.of_grown (but_set w0 g o u)).trans (ih _ _)
    exact hh vs w o
  have hK : Hid _ := k (w.setCells g o vs) (hb.sets _ _ (by omega)) hkp
  clear k
  unfold wpOp
  simp only [hi]
  rw [if_pos (by simp [Region.wanted, hg])]
  left
  unfold Oper.wp
  simp [execOp, ho, hx, hy, hr, Result.andThen]
  simp only [Oper.upon, hd]
  exact hK.out

set_option maxRecDepth 100000 in
set_option maxHeartbeats 1000000 in
theorem oCPut (w : World) {c r : Nat} {L : List UInt8} {n : Nat} (hb : Blk w c (celC r L n) 61) (hL : L.length = 4096) (hn : n ≤ 5000) {k : Nat} (hk : k < 4) {p : Option Addr} {m q : Nat} {b : List UInt8} (hp : Bs w p m q b) (hm : m ≤ 1024) :
    Calls Try.prog 28 #[.pointer (some ⟨c, 0, none⟩), .int .i64 (k : Int), .slice p m q] w fun e w' => e = .returned (.tuple #[]) ∧ Blk w' c (celC r (L.take (k * 1024) ++ fitK b ++ L.drop (k * 1024 + 1024)) (n + 1)) 61 ∧ Kp (fun j => j = c) w w' := by
  have hne := zSec_ne
  have hall := allSec
  have hl := hb.lt
  have hbl : b.length = m := hp.len
  have hz : Blk (w.alloc (.cells zSec 58)) w.heap.size (cs z1k) 58 := Blk.new w _ _
  have hp1 : Bs (w.alloc (.cells zSec 58)) p m q b := hp.below (below_alloc _ _) (Nat.le_refl _)
  have hb1 : Blk (w.alloc (.cells zSec 58)) c (celC r L n) 61 := hb.old _
  have HK0 : Hid (Kp (fun j => j = c) w (w.alloc (.cells zSec 58))) := Kp.of_below (below_alloc _ _)
  have hzl : (cs z1k).length = 1024 := by rw [cs_length, z1k_length]
  have hcw : ¬ c = w.heap.size := by omega
  clear hb hp
  have HE : Hid (cs (b.take 1024) ++ (cs z1k).drop (min m 1024) = cs (fitK b)) := by show _ = _; rw [← hbl]; exact cs_fitK (by omega)
  have HSL : Hid ((cs (fitK b)).length = 1024) := by show _ = _; rw [cs_length, fitK_length]
  have HFL : Hid ((fitK b).length = 1024) := fitK_length b
  generalize fitK b = S at *
  have HL5 : Hid ((L.take (k * 1024) ++ S ++ L.drop (k * 1024 + 1024)).length = 4096) := by
    show _ = _
    have := HFL.out
    simp only [List.length_append, List.length_take, List.length_drop]
    omega
  have HPT : Hid ((celC r L n).take (1 + k * 1024) ++ cs S ++ (celC r L n).drop (1 + k * 1024 + (cs S).length) = celC r (L.take (k * 1024) ++ S ++ L.drop (k * 1024 + 1024)) n) := celC_put r n hL HFL.out hk
  generalize L.take (k * 1024) ++ S ++ L.drop (k * 1024 + 1024) = L' at *
  have hk' : (k : Int) < 4 := by omega
  go_enter Try.func28, Try.ntmps28
  go_wp2_with (with_reducible refine at_cp ?_; refine wpList_cpm _ rfl (.tmp 7) (.tmp 8) rfl w.heap.size 1024 1024 rfl p m q rfl b hp1 (cs z1k) 58 hz hzl ?_; intro v w1 d1 k1 o1)
  rw [HE.out] at d1
  have c1 := o1 c _ _ hcw hb1
  have HK1 : Hid (Kp (fun j => j = c) w w1) := Kp.of_below ((below_alloc w _).trans k1)
  clear HE hz hp1 hb1 o1 hne hbl hzl HK0 k1
  refine regionE 6 (S := Grows w1) (by kernel_rfl) (Below.refl _ w1).drew ?_
  refine takeT 0 (some 10) (.pointer (some ⟨c, 0, none⟩)) rfl rfl (by kernel_rfl) (fun _ _ _ h => h) (ans_plain (by rfl) (fun w _ => by unfold execOp; go_simp)) ?_
  simp only [Act.put, List.setIfInBounds_toArray, List.set_cons_zero, List.set_cons_succ]
  refine takeT 1 (some 11) (.int .i64 (k : Int)) rfl rfl (by kernel_rfl) (fun _ _ _ h => h) (ans_plain (by rfl) (fun w _ => by unfold execOp; go_simp)) ?_
  simp only [Act.put, List.setIfInBounds_toArray, List.set_cons_zero, List.set_cons_succ]
  refine takeT 2 (some 12) (.agg (cs S).toArray) rfl rfl (by kernel_rfl) (fun _ _ _ h => h) (ans_row 58 (.tmp 6) _ 1024 rfl (by rfl) w.heap.size 0 rfl (cs S) (fun u hu => (d1.below hu d1.lt).whole) Try.underlying58 rfl HSL.out sizeSec) ?_
  simp only [Act.put, List.setIfInBounds_toArray, List.set_cons_zero, List.set_cons_succ]
  refine takeT 3 (some 13) (.pointer (some ⟨c, 0, none⟩)) rfl rfl (by kernel_rfl) (fun _ _ _ h => h) (ans_plain (by rfl) (fun w _ => by unfold execOp; go_simp)) ?_
  simp only [Act.put, List.setIfInBounds_toArray, List.set_cons_zero, List.set_cons_succ]
  refine takeT 4 (some 14) (.pointer (some ⟨c, 1, none⟩)) rfl rfl (by kernel_rfl) (fun _ _ _ h => h) (ans_plain (by rfl) (fun w _ => by unfold execOp; go_simp)) ?_
  simp only [Act.put, List.setIfInBounds_toArray, List.set_cons_zero, List.set_cons_succ]
  refine takeT 5 (some 15) (.pointer (some ⟨c, 1 + k * 1024, none⟩)) rfl rfl (by kernel_rfl) (fun _ _ _ h => h) (ans_plain (by rfl) (fun w _ => by unfold execOp; go_simp)) ?_
  simp only [Act.put, List.setIfInBounds_toArray, List.set_cons_zero, List.set_cons_succ]
  refine goE (by kernel_rfl) (by kernel_rfl) (by kernel_rfl) fun u3 hg3 hs3 => ?_
  refine opStM 6 58 (.tmp 15) (.tmp 12) 1024 rfl rfl rfl rfl c (1 + k * 1024) _ (cs S) 61 (c1.below hs3 c1.lt) (by rw [celC_length, hL]; omega) HSL.out cs_one sizeSec rfl rfl ?_
  intro u4 c4 k4
  refine endE (by kernel_rfl) fun u5 hg5 => ?_
  rw [HPT.out] at c4
  have c5 := c4.below hg5 c4.lt
  have HK5 : Hid (Kp (fun j => j = c) w u5) := ((HK1.out.trans (Kp.of_below hs3)).trans k4).trans (Kp.of_below hg5)
  have hl5 := c5.lt
  have n5 : u5.cell? ⟨c, 4097, none⟩ = some (.int .i64 (n : Int)) := by rw [c5.cell]; exact celC_last r n HL5.out
  have z5 := c5.free 4097
  clear HK1 c4 k4 hg5 c1 d1 hg3 hs3
  go_wp2_with fail
  go_end0
  refine ⟨rfl, ?_, HK5.out.trans (kp_set u5 c 4097 _)⟩
  have := c5.setC 4097 (.int .i64 ((n : Int) + 1))
  rw [celC_setN r n HL5.out] at this
  exact this

end Go.Proofs.Yteilnckkmmgpcaa
