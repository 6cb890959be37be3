/-
  3 texts in one. No statement of the seat is proved here.
-/
import Derived.Test.YtbifikeecmaakaaG18
import Derived.Laws.CopyOwn
/-
  The contract of the program's Join at one part: the same bytes in new memory. Condition: at most 99000 bytes.
-/
namespace Go.Proofs.Ytbifikeecmaakaa
open Go.RowKit

/-- One part, new. -/
theorem oJoinOne (w : World) {p : Option Addr} {m c : Nat} {b : List UInt8} (h : Bs w p m c b) (hz : b.length ≤ 99000) : Calls Try.prog 40 #[.slice (some ⟨w.heap.size, 0, none⟩) 1 1] (w.alloc (.cells #[.slice p m c] 22)) (Gives w b) := by
  refine (oJoin _ (Bss.one1 h) (by simp [tot]; omega)).mono ?_
  rintro e w2 ⟨a3, m3, c3, rfl, o3, hb3⟩
  rw [show [b].flatten = b from by simp] at o3
  have kk : Below w.heap.size w (w.alloc (.cells #[.slice p m c] 22)) := below_alloc _ _
  exact ⟨a3, m3, c3, rfl, o3.mono kk.size, kk.trans (hb3.mono kk.size)⟩

end Go.Proofs.Ytbifikeecmaakaa

/-
  Contracts of layer 10's program: how a cell lies in memory ('Ck'), New, has, down, Writes, Read. Conditions: the power is in memory; fewer than 2^40 writes.
-/
namespace Go.Proofs.Ytbifikeecmaakaa
open Go.RowKit

/-- A cell's cells: the power, its bytes, how many were written. -/
def celC (r : Nat) (l : List UInt8) (n : Nat) : List Value := .pointer (some ⟨r, 0, none⟩) :: (cs l ++ [.int .i64 (n : Int)])
def z4k : List UInt8 := List.replicate 4096 0
theorem z4k_length : z4k.length = 4096 := List.length_replicate
theorem z4k_eq : ([z1k, z1k, z1k, z1k] : List (List UInt8)).flatten = z4k := by
  unfold z4k z1k
  simp only [List.flatten_cons, List.flatten_nil, List.append_nil, List.replicate_append_replicate]
theorem celC_length (r : Nat) (l : List UInt8) (n : Nat) : (celC r l n).length = l.length + 2 := by
  unfold celC
  rw [List.length_cons, List.length_append, cs_length]
  rfl
theorem celC_last (r : Nat) {l : List UInt8} (n : Nat) (h : l.length = 4096) : (celC r l n)[4097]? = some (.int .i64 (n : Int)) := by
  unfold celC
  rw [List.getElem?_cons_succ, List.getElem?_append_right (by rw [cs_length]; omega), cs_length, h]
  rfl
theorem celC_mid (r : Nat) {l : List UInt8} (n : Nat) {j : Nat} (h : j < l.length) : (celC r l n)[1 + j]? = (cs l)[j]? := by
  unfold celC
  rw [Nat.add_comm, List.getElem?_cons_succ, List.getElem?_append_left (by rw [cs_length]; exact h)]
set_option maxRecDepth 100000 in
theorem builtC (r : Nat) : Try.prog.built 112 [(0, .pointer (some ⟨r, 0, none⟩))] = some (celC r z4k 0).toArray := by kernel_rfl
theorem celC_ne (r : Nat) (l : List UInt8) (n : Nat) : ¬ (celC r l n).toArray = #[] := by
  intro h
  have := congrArg Array.size h
  rw [List.size_toArray, celC_length] at this
  simp at this

theorem flat4 {C : CelS} {m : Nat} (h : C.fit m) : C.l.flatten.length = 4096 := by
  obtain ⟨_, hl, hs, _⟩ := h
  match hc : C.l, hl with
  | [a, b, c, d], _ =>
    rw [hc] at hs
    have h1 := hs a (by simp)
    have h2 := hs b (by simp)
    have h3 := hs c (by simp)
    have h4 := hs d (by simp)
    simp only [List.flatten_cons, List.flatten_nil, List.append_nil, List.length_append]
    omega
/-- A sector's bytes. -/
theorem flat_sec {C : CelS} {m : Nat} (h : C.fit m) {k : Nat} (hk : k < 4) {j : Nat} {v : Value} (hv : (cs (C.l.getD k []))[j]? = some v) : (cs C.l.flatten)[k * 1024 + j]? = some v := by
  obtain ⟨_, hl, hs, _⟩ := h
  match hc : C.l, hl with
  | [a, b, c, d], _ =>
    rw [hc] at hs hv
    have h1 := hs a (by simp)
    have h2 := hs b (by simp)
    have h3 := hs c (by simp)
    have h4 := hs d (by simp)
    have e : cs ([a, b, c, d] : List (List UInt8)).flatten = [cs a, cs b, cs c, cs d].flatten := by
      simp only [List.flatten_cons, List.flatten_nil, List.append_nil, cs_append]
    have hj : j < 1024 := by
      have := (List.getElem?_eq_some_iff.1 hv).1
      rw [cs_length] at this
      match k, hk with
      | 0, _ => exact Nat.lt_of_lt_of_eq this h1
      | 1, _ => exact Nat.lt_of_lt_of_eq this h2
      | 2, _ => exact Nat.lt_of_lt_of_eq this h3
      | 3, _ => exact Nat.lt_of_lt_of_eq this h4
    rw [e, flat_at (sz := 1024) (rows := [cs a, cs b, cs c, cs d]) (by intro vs hvs; simp only [List.mem_cons, List.not_mem_nil, or_false] at hvs; rcases hvs with rfl | rfl | rfl | rfl <;> rw [cs_length] <;> assumption) (i := k) (vs := cs (([a, b, c, d] : List (List UInt8)).getD k [])) (by match k, hk with | 0, _ => rfl | 1, _ => rfl | 2, _ => rfl | 3, _ => rfl) j hj]
    exact hv

/-- The cell in block c, on the power in block r, holds C; U: all blocks that it uses; F: those of them that it may yet write. -/
structure Ck (U F : Nat → Prop) (w : World) (c r : Nat) (C : CelS) : Prop where
  u : ∀ j, U j ↔ j = c ∨ j = r
  f : ∀ j, F j ↔ j = c ∨ j = r
  ne : ¬ c = r
  po : Pw w r C.p
  b : Blk w c (celC r C.l.flatten C.writes) 112
  len : C.l.flatten.length = 4096
theorem Ck.lt {U F : Nat → Prop} {w : World} {c r : Nat} {C : CelS} (h : Ck U F w c r C) : ∀ j, U j → j < w.heap.size := fun j hj => by
  rcases (h.u j).1 hj with rfl | rfl
  · exact h.b.lt
  · exact h.po.lt
theorem Ck.sub {U F : Nat → Prop} {w : World} {c r : Nat} {C : CelS} (h : Ck U F w c r C) : ∀ j, F j → U j := fun j hj => (h.u j).2 ((h.f j).1 hj)
theorem Ck.pw {U F : Nat → Prop} {w : World} {c r : Nat} {C : CelS} (h : Ck U F w c r C) : Pw w r C.p ∧ F r := ⟨h.po, (h.f r).2 (Or.inr rfl)⟩
theorem Ck.keep {U F G : Nat → Prop} {w w' : World} {c r : Nat} {C : CelS} (h : Ck U F w c r C) (k : Kp G w w') (hG : ∀ j, U j → ¬ G j) : Ck U F w' c r C :=
  ⟨h.u, h.f, h.ne, h.po.same (k.block r h.po.lt (hG r ((h.u r).2 (Or.inr rfl)))), k.blk h.b (hG c ((h.u c).2 (Or.inl rfl))), h.len⟩
theorem Ck.power {U F : Nat → Prop} {w w' : World} {c r : Nat} {C : CelS} (h : Ck U F w c r C) {P : PowS} (hp : Pw w' r P) (k : Kp (fun j => j = r) w w') : Ck U F w' c r { C with p := P } :=
  ⟨h.u, h.f, h.ne, hp, k.blk h.b h.ne, h.len⟩
/-- What a call that writes leaves. -/
def Cks (U F : Nat → Prop) (w : World) (c r : Nat) (C : CelS) (w' : World) : Prop := ∃ U' F', Ck U' F' w' c r C ∧ Next w U U' ∧ Next w F F' ∧ Kp F w w'

set_option maxRecDepth 100000 in
theorem oCNew (w : World) {r : Nat} {P : PowS} (hp : Pw w r P) : Calls Try.prog 20 #[.pointer (some ⟨r, 0, none⟩)] w fun e w' => ∃ c U F, e = .returned (.tuple #[.pointer (some ⟨c, 0, none⟩), .int .i64 0]) ∧ Ck U F w' c r (CelS.new P) ∧ (∀ j, U j → j = r ∨ w.heap.size ≤ j) ∧ Below w.heap.size w w' := by
  have HP : Hid (Pw w r P) := hp
  have hl := hp.lt
  have hne := celC_ne r z4k 0
  have HE := builtC r
  have HF : Hid (Ck (fun j => j = w.heap.size ∨ j = r) (fun j => j = w.heap.size ∨ j = r) (w.alloc (.cells (celC r z4k 0).toArray 112)) w.heap.size r (CelS.new P)) := by
    refine ⟨fun _ => Iff.rfl, fun _ => Iff.rfl, fun e => by omega, hp.same ((below_alloc w _).block r hl), ?_, ?_⟩
    · show Blk _ _ (celC r ([z1k, z1k, z1k, z1k] : List (List UInt8)).flatten 0) _
      rw [z4k_eq]
      exact Blk.new w _ _
    · show ([z1k, z1k, z1k, z1k] : List (List UInt8)).flatten.length = 4096
      rw [z4k_eq, z4k_length]
  clear hp HP
  generalize celC r z4k 0 = L at *
  go_enter Try.func20, Try.ntmps20
  go_wp2_with (with_reducible refine at_bd 112 ?_; refine bd 112 #[(0, .tmp 6)] [(0, .pointer (some ⟨r, 0, none⟩))] L.toArray rfl HE ?_)
  go_ret2
  exact ⟨w.heap.size, _, _, rfl, HF.out, fun j hj => hj.elim (fun e => Or.inr (Nat.le_of_eq e.symm)) Or.inl, below_alloc _ _⟩
theorem oCNewNil (w : World) : Calls Try.prog 20 #[.pointer none] w fun e w' => e = .returned (.tuple #[.pointer none, .int .i64 1]) ∧ Below w.heap.size w w' := by
  go_enter Try.func20, Try.ntmps20
  go_wp2_with fail
  go_ret2
  exact ⟨rfl, Below.refl _ _⟩

theorem oCHas (w : World) (at_ : Int) : Calls Try.prog 68 #[.int .i64 at_] w fun e w' => e = .returned (.bool (decide (0 ≤ at_ ∧ at_ < 4))) ∧ w' = w := by
  obtain ⟨P, hP⟩ : ∃ P : Bool, P = decide (0 ≤ at_ ∧ at_ < 4) := ⟨_, rfl⟩
  rw [← hP]
  by_cases h0 : 0 ≤ at_
  · by_cases h1 : at_ < 4
    · have HP : Hid (P = true) := by rw [hP]; exact decide_eq_true ⟨h0, h1⟩
      clear hP
      go_enter Try.func68, Try.ntmps68
      go_wp2_with fail
      go_ret
      exact ⟨by rw [HP.out]; rfl, rfl⟩
    · have HP : Hid (P = false) := by rw [hP]; exact decide_eq_false fun h => h1 h.2
      clear hP
      go_enter Try.func68, Try.ntmps68
      go_wp2_with fail
      go_ret
      exact ⟨by rw [HP.out]; rfl, rfl⟩
  · have HP : Hid (P = false) := by rw [hP]; exact decide_eq_false fun h => h0 h.1
    clear hP
    go_enter Try.func68, Try.ntmps68
    go_wp2_with fail
    go_ret
    exact ⟨by rw [HP.out]; rfl, rfl⟩
set_option maxRecDepth 100000 in
theorem oCDown (w : World) {U F : Nat → Prop} {c r : Nat} {C : CelS} (h : Ck U F w c r C) : Calls Try.prog 69 #[.pointer (some ⟨c, 0, none⟩)] w fun e w' => e = .returned (.bool C.p.down) ∧ w' = w := by
  have hl := h.b.lt
  have c0 : w.cell? ⟨c, 0, none⟩ = some (.pointer (some ⟨r, 0, none⟩)) := h.b.cell 0
  have CD := oPDown w h.po
  clear h
  generalize C.p.down = d at *
  go_enter Try.func69, Try.ntmps69
  go_wp2_with fail
  refine CD.mono ?_
  rintro e w' ⟨rfl, rfl⟩
  go_wp2_with fail
  go_ret
  exact ⟨rfl, rfl⟩
theorem lenSec : Try.prog.arrayLen 109 = 1024 := by kernel_rfl
theorem undSec : Try.prog.underlying 109 = some (.array (Try.prog.arrayLen 109) (Try.prog.elem 109)) := by kernel_rfl
theorem elSec (w : World) : Sem.run Try.prog (sizeOf (Try.prog.elem 109)) w = .ok 1 w := by kernel_rfl
theorem allSec (g o : Nat) (w : World) : Sem.run Try.prog (Instr.sliceAt 109 (.pointer (some ⟨g, o, none⟩)) none none none) w = .ok (.slice (some ⟨g, o, none⟩) 1024 1024) w := by
  rw [run_sliceAt_array_all w 109 _ undSec, elSec]
  simp only [Result.andThen, slicedAt, lenSec]
  rfl
/-- A sector as a slice. -/
theorem Ck.sec {U F : Nat → Prop} {w : World} {c r : Nat} {C : CelS} (h : Ck U F w c r C) {mm : Nat} (hf : C.fit mm) {k : Nat} (hk : k < 4) : Bs w (some ⟨c, 1 + k * 1024, none⟩) 1024 1024 (C.l.getD k []) := by
  have hl := (hf.sec hk).2
  have := h.b.bs (1 + k * 1024) 1024 (C.l.getD k []) (fun j v hv => by
    have h1 := flat_sec hf hk hv
    have h2 := (List.getElem?_eq_some_iff.1 h1).1
    rw [cs_length] at h2
    rw [Nat.add_assoc, celC_mid r _ h2]
    exact h1) (by omega) (by omega)
  rw [hl] at this
  exact this
theorem CelS.read_not (C : CelS) {at_ : Int} (h : ¬ (0 ≤ at_ ∧ at_ < 4)) : C.read at_ = ([], 2) := by
  unfold CelS.read
  rw [if_pos (by omega)]
theorem CelS.read_down (C : CelS) {at_ : Int} (h : 0 ≤ at_ ∧ at_ < 4) (hd : C.p.down = true) : C.read at_ = ([], 5) := by
  unfold CelS.read
  rw [if_neg (by omega), if_pos hd]
theorem CelS.read_ok (C : CelS) {at_ : Int} (h : 0 ≤ at_ ∧ at_ < 4) (hd : C.p.down = false) : C.read at_ = (C.l.getD at_.toNat [], 0) := by
  unfold CelS.read
  rw [if_neg (by omega), hd, if_neg (by decide)]
theorem BA.none (A : Nat → Prop) (w : World) : BA A w none 0 0 [] := ⟨Bs.nil w, fun h => by omega⟩

set_option maxRecDepth 100000 in
theorem oCRead (w : World) {U F : Nat → Prop} {c r : Nat} {C : CelS} (h : Ck U F w c r C) {mm : Nat} (hf : C.fit mm) (_hmm : mm ≤ 5000) (at_ : Int) (hat : i64 at_) : Calls Try.prog 57 #[.pointer (some ⟨c, 0, none⟩), .int .i64 at_] w fun e w' => ∃ p m q, e = .returned (.tuple #[.slice p m q, .int .i64 (C.read at_).2]) ∧ BA (fun j => ¬ F j ∧ (U j ∨ w.heap.size ≤ j)) w' p m q (C.read at_).1 ∧ Below w.heap.size w w' := by
  have CH := oCHas w at_
  have CD := oCDown w h
  have HF : Hid (∀ j, F j → j < w.heap.size) := fun j hj => h.lt j (h.sub j hj)
  by_cases hk : 0 ≤ at_ ∧ at_ < 4
  · rw [decide_eq_true hk] at CH
    cases hd : C.p.down with
    | true =>
      rw [C.read_down hk hd]
      rw [hd] at CD
      clear h hf hk hd HF hat
      go_enter Try.func57, Try.ntmps57
      go_wp2_with fail
      refine CH.mono ?_
      rintro e w1 ⟨rfl, rfl⟩
      go_wp2_with fail
      refine CD.mono ?_
      rintro e w2 ⟨rfl, rfl⟩
      go_wp2_with fail
      go_ret2
      exact ⟨none, 0, 0, rfl, BA.none _ _, Below.refl _ _⟩
    | false =>
      rw [C.read_ok hk hd]
      rw [hd] at CD
      obtain ⟨k, rfl⟩ : ∃ k : Nat, at_ = (k : Int) := ⟨at_.toNat, by omega⟩
      have hk4 : k < 4 := by omega
      have hs := h.sec hf hk4
      have CJ : Hid (Calls Try.prog 40 #[.slice (some ⟨w.heap.size, 0, none⟩) 1 1] (w.alloc (.cells #[.slice (some ⟨c, 1 + k * 1024, none⟩) 1024 1024] 22)) (Gives w (C.l.getD k []))) := oJoinOne w hs (by rw [hs.len]; omega)
      have hl := h.b.lt
      have hall := allSec
      rw [Int.toNat_natCast]
      dsimp only
      generalize C.l.getD k [] = b at *
      clear h hf hd hat hs
      go_enter Try.func57, Try.ntmps57
      go_wp2_with fail
      refine CH.mono ?_
      rintro e w1 ⟨rfl, rfl⟩
      go_wp2_with fail
      refine CD.mono ?_
      rintro e w2 ⟨rfl, rfl⟩
      clear CH CD
      go_wp2_with fail
      refine CJ.out.mono ?_
      rintro e w3 ⟨a3, m3, c3, rfl, o3, hb3⟩
      go_wp2_with fail
      go_ret2
      have h5 : B5 (fun j => w2.heap.size ≤ j) w3 a3 m3 c3 b := o3.b5 fun j hj _ => hj
      refine ⟨a3, m3, c3, rfl, ⟨h5.bs, fun hm => ?_⟩, hb3⟩
      obtain ⟨x, cur, f, hp, ha, hb⟩ := h5.2 hm
      exact ⟨x, hp, ⟨fun hF => absurd (HF.out _ hF) (by omega), Or.inr ha⟩, (Array.getElem?_eq_some_iff.1 hb).1⟩
  · rw [decide_eq_false hk] at CH
    rw [C.read_not hk]
    clear h hf hk HF hat CD
    go_enter Try.func57, Try.ntmps57
    go_wp2_with fail
    refine CH.mono ?_
    rintro e w1 ⟨rfl, rfl⟩
    go_wp2_with fail
    go_ret2
    exact ⟨none, 0, 0, rfl, BA.none _ _, Below.refl _ _⟩

end Go.Proofs.Ytbifikeecmaakaa

/-
  The builtin copy of bytes into a block that is known whole, as one step of a region that draws its order. No condition; no statement of the seat is proved here.
-/
namespace Go.Proofs.Ytbifikeecmaakaa
open Go.RowKit

theorem cs_sub' {l : List UInt8} {n j : Nat} {v : Value} (h : (cs (l.take n))[j]? = some v) : (cs l)[j]? = some v := by
  simp only [cs, List.getElem?_map, List.getElem?_take] at h ⊢
  by_cases hj : j < n
  · simpa [hj] using h
  · simp [hj] at h

/-- What a copy of so many bytes leaves. -/
structure Copied (w w' : World) (g off n : Nat) (vs : List Value) (l : List UInt8) (t : TypeId) : Prop where
  blk : Blk w' g (vs.take off ++ cs (l.take n) ++ vs.drop (off + n)) t
  by_ : w.grownBy w' (some g)
  size : w'.heap.size = w.heap.size

theorem Copied.other {w w' : World} {g off n : Nat} {vs : List Value} {l : List UInt8} {t : TypeId} (h : Copied w w' g off n vs l t) {k : Nat} {us : List Value} {u : TypeId} (b : Blk w k us u) (hk : k ≠ g) : Blk w' k us u := by
  unfold Blk
  rw [h.by_.block k b.lt (by simpa using hk)]
  exact b
theorem Copied.below {w w' : World} {g off n : Nat} {vs : List Value} {l : List UInt8} {t : TypeId} (h : Copied w w' g off n vs l t) {B : Nat} {a : World} (hb : Below B a w) (hg : B ≤ g) (hB : B ≤ w.heap.size) : Below B a w' :=
  hb.grown h.by_ hB (fun k hk => by simp at hk; omega)

theorem step_cp {ops : Array Oper} {o : Oper} {a : Act} {w : World} {K : Act → World → Prop} {Q : Exit → Act → World → Prop} {E : Prop} (hgd : o.guard = none) (d s : Operand)
    (ho : o.op = .call { callee := .builtin .copy, args := #[d, s], argTypes := #[22, 22] }) (g off dl dc : Nat) (hd : a.eval d = .slice (some ⟨g, off, none⟩) dl dc)
    (sp : Option Addr) (m c : Nat) (hs : a.eval s = .slice sp m c) (l : List UInt8) (hb : Bs w sp m c l) (vs : List Value) (t : TypeId) (blk : Blk w g vs t) (n : Nat) (hn : n = Nat.min m dl) (hfit : off + n ≤ vs.length) (hpos : 0 < n)
    (h : ∀ w', Copied w w' g off n vs l t → K (a.put o.dst (.int .i64 (n : Int))) w') :
    if Region.wanted o (yielded ops a.tmps) = true then Oper.wp Try.prog o a w K Q else E := by
  have hw : Region.wanted o (yielded ops a.tmps) = true := by simp [Region.wanted, hgd]
  rw [if_pos hw]
  have hm : n ≤ m := by rw [hn]; exact Nat.min_le_left _ _
  obtain ⟨b, so, rfl, _, _⟩ := hb.at (by omega)
  have hlen := hb.len
  have hcl : (cs (l.take n)).length = n := by rw [cs_length, List.length_take]; omega
  obtain ⟨i0, hi, hz0, hz1, hz2⟩ := info_parts info5
  have hrun := run_copy_row (P := Try.prog) w 22 22 o.type 5 g off dl dc ⟨b, so, none⟩ m c vs.toArray t (cs (l.take n)) Try.underlying22 (by rw [hi]; simp [hz1]) blk (by rw [hcl, hn]) (fun j v hj => hb.news j v (cs_sub' hj)) (by simpa [hcl] using hfit) cs_one
  rw [hcl] at hrun
  unfold Oper.wp
  simp [execOp, ho, resolve, invoke, builtin, hd, hs, hrun, Result.andThen]
  have := h (w.setRow g (vs.take off ++ (cs (l.take n) ++ vs.drop (off + n))).toArray) ⟨?_, ?_, ?_⟩
  · rw [Oper.upon_value]; simpa [goInt] using this
  · unfold Blk
    rw [setRow_heap w g _ _ t (0, 0) blk, List.append_assoc]
  · exact ⟨rfl, rfl, rfl, by simp, fun k _ hk => setRow_other w g k _ (by simpa using hk)⟩
  · simp

end Go.Proofs.Ytbifikeecmaakaa
