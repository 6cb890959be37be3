/-
  3 texts in one. No statement of the seat is proved here.
-/
import Derived.Test.YtjpejheipkfanaaGreatDoorG9

/-
  Contracts of layer 12's program: what a sealer tells of itself, the next noise, whether a key and a nonce fit, a new sealer; rows of regions over texts and maps. Conditions: none beside the sealer in memory.
-/
namespace Go.Proofs.YtjpejheipkfanaaGreatDoor
open Go.RowKit
set_option linter.unusedVariables false

/-- 'string(b)', in a region that draws. -/
theorem ans_str {ops : Array Oper} {S : World → Prop} {oi : Oper} {a : Act} (x : Operand) (ho : oi.op = .convert 32 9 x) (hw : Region.wanted oi (yielded ops a.tmps) = true) (p : Option Addr) (m c : Nat) (l : List UInt8) (hx : a.eval x = .slice p m c) (hb : ∀ w, S w → Bs w p m c l) : Ans Tryz.prog ops S oi (sv l) a :=
  ans_plain hw fun w hs => by simp [execOp, ho, hx, (hb w hs).str, Result.andThen]
/-- A map is asked, in a region that draws. -/
theorem ans_lookK {κ : Type} {kv : κ → Value} {ok : κ → Prop} {ops : Array Oper} {S : World → Prop} {oi : Oper} {a : Act} (x y : Operand) (T K E : TypeId) (ho : oi.op = Op.lookup T x y true) (hw : Region.wanted oi (yielded ops a.tmps) = true) (hK : KeyS K kv ok) (hm : Tryz.prog.underlying T = some (.map K E)) (z : Value) (hz : ∀ w, (zeroValue E).run Tryz.prog w = .ok z w)
    (m : Nat) (f : κ → Option Value) (hx : a.eval x = .map (some m)) (k : κ) (hk : ok k) (hy : a.eval y = kv k) (h : ∀ w, S w → Mks kv ok w m f) : Ans Tryz.prog ops S oi (.tuple #[(f k).getD z, .bool (f k).isSome]) a :=
  ans_plain hw fun w hs => by simp [execOp, ho, hx, hy, (h w hs).look hK hm (hz w) k hk, Result.andThen]
/-- A map is written, as one operation. -/
theorem opMsetK {κ : Type} [DecidableEq κ] {kv : κ → Value} {ok : κ → Prop} {ops : Array Oper} {Q : Exit → Act → World → Prop} (i : Nat) (T K E : TypeId) (x y z : Operand) {oi : Oper} {C : Act → World → Prop} {a : Act} {w : World} (hi : ops[i]? = some oi) (hd0 : oi.dst = none) (ho : oi.op = .mapUpdate T x y z) (hg : oi.guard = none) (hK : KeyS K kv ok) (hm : Tryz.prog.underlying T = some (.map K E))
    (m : Nat) (f : κ → Option Value) (hx : a.eval x = .map (some m)) (k : κ) (hk : ok k) (hy : a.eval y = kv k) (v : Value) (hz : a.eval z = v) (h : Mks kv ok w m f)
    (c : ∀ w', Mks kv ok w' m (updK f k v) → w.grownBy w' (some m) → C a w') : wpOp Tryz.prog ops Q i C a w := by
  obtain ⟨w', hrun, r1, r2⟩ := h.store hK hm k hk v
  have hKK : Hid _ := c w' r1 r2
  clear c
  unfold wpOp
  simp only [hi]
  rw [if_pos (by simp [Region.wanted, hg])]
  left
  unfold Oper.wp
  simp [execOp, ho, hx, hy, hz, hrun, Result.andThen]
  simp only [Oper.upon, hd0]
  exact hKK.out
/-- A literal of a struct, in a region that draws. -/
theorem ans_bdK {ops : Array Oper} {S : World → Prop} {oi : Oper} {a : Act} (ty : TypeId) (parts : List (Nat × Operand)) (vals : List (Nat × Value)) (cells : Array Value) (ho : oi.op = .build ty parts.toArray) (hw : Region.wanted oi (yielded ops a.tmps) = true) (hv : parts.map (fun p => (p.1, a.eval p.2)) = vals) (hb : Tryz.prog.built ty vals = some cells) : Ans Tryz.prog ops S oi (.agg cells) a := by
  refine ans_plain hw fun w hS => ?_
  have hr := run_build (P := Tryz.prog) w ty vals.toArray _ hb
  have e : (parts.toArray.map fun (i, x) => (i, a.eval x)) = vals.toArray := by
    rw [← hv]
    simp
  simp only [execOp, ho, e]
  simp [hr, Result.andThen]

theorem oSIdeal (w : World) {U : Nat → Prop} {r : Nat} {S : SeaS} {M : SeaM} (h : Se U w r S M) :
    Calls Tryz.prog 17 #[.pointer (some ⟨r, 0, none⟩)] w fun e w' => e = .returned (.bool S.ideal) ∧ w = w' := by
  have hc : w.cell? ⟨r, 0, none⟩ = some (.bool S.ideal) := h.blk.cell 0
  have hl := h.blk.lt
  clear h
  go_enter Tryz.func17, Tryz.ntmps17
  go_wp2_with fail
  go_ret
  exact ⟨rfl, rfl⟩
theorem oSReused (w : World) {U : Nat → Prop} {r : Nat} {S : SeaS} {M : SeaM} (h : Se U w r S M) :
    Calls Tryz.prog 9 #[.pointer (some ⟨r, 0, none⟩)] w fun e w' => e = .returned (.bool S.reused) ∧ w = w' := by
  have hc : w.cell? ⟨r, 5, none⟩ = some (.bool S.reused) := h.blk.cell 5
  have hl := h.blk.lt
  clear h
  go_enter Tryz.func9, Tryz.ntmps9
  go_wp2_with fail
  go_ret
  exact ⟨rfl, rfl⟩
theorem oSForged (w : World) {U : Nat → Prop} {r : Nat} {S : SeaS} {M : SeaM} (h : Se U w r S M) :
    Calls Tryz.prog 10 #[.pointer (some ⟨r, 0, none⟩)] w fun e w' => e = .returned (.bool S.forged) ∧ w = w' := by
  have hc : w.cell? ⟨r, 6, none⟩ = some (.bool S.forged) := h.blk.cell 6
  have hl := h.blk.lt
  clear h
  go_enter Tryz.func10, Tryz.ntmps10
  go_wp2_with fail
  go_ret
  exact ⟨rfl, rfl⟩
theorem oSSealed (w : World) {U : Nat → Prop} {r : Nat} {S : SeaS} {M : SeaM} (h : Se U w r S M) :
    Calls Tryz.prog 11 #[.pointer (some ⟨r, 0, none⟩)] w fun e w' => e = .returned (.int .i64 (S.book.length : Int)) ∧ w = w' := by
  have hc : w.cell? ⟨r, 2, none⟩ = some (.int .i64 (S.book.length : Int)) := h.blk.cell 2
  have hl := h.blk.lt
  clear h
  go_enter Tryz.func11, Tryz.ntmps11
  go_wp2_with fail
  go_ret
  exact ⟨rfl, rfl⟩
theorem oFit (w : World) (a b : Option Addr) (n c m d : Nat) (hn : n ≤ 1000000) (hm : m ≤ 1000000) :
    Calls Tryz.prog 26 #[.slice a n c, .slice b m d] w fun e w' => e = .returned (.bool (decide (n = 32 ∧ m = 12))) ∧ w = w' := by
  by_cases h1 : n = 32
  · subst h1
    by_cases h2 : m = 12
    · subst h2
      go_enter Tryz.func26, Tryz.ntmps26
      go_wp2_with fail
      go_ret
      exact ⟨rfl, rfl⟩
    · have h3 : ((m : Int) == 12) = false := by simp; omega
      rw [show decide ((32 : Nat) = 32 ∧ m = 12) = false from by simp [h2]]
      go_enter Tryz.func26, Tryz.ntmps26
      go_wp2_with fail
      go_ret
      exact ⟨rfl, rfl⟩
  · have h3 : ((n : Int) == 32) = false := by simp; omega
    rw [show decide (n = 32 ∧ m = 12) = false from by simp [h1]]
    go_enter Tryz.func26, Tryz.ntmps26
    go_wp2_with fail
    go_ret
    exact ⟨rfl, rfl⟩
set_option maxHeartbeats 1000000 in
theorem oSNext (w : World) {U : Nat → Prop} {r : Nat} {S : SeaS} {M : SeaM} (h : Se U w r S M) (hn : S.count + S.book.length + 1 ≤ 1000000) :
    Calls Tryz.prog 35 #[.pointer (some ⟨r, 0, none⟩)] w fun e w' => e = .returned (.int .u64 ((S.count + 1 : Nat) : Int)) ∧ Se U w' r { S with count := S.count + 1 } M ∧ Kp (fun j => j = r) w w' := by
  have hc : w.cell? ⟨r, 7, none⟩ = some (.int .u64 (S.count : Int)) := h.blk.cell 7
  have hl := h.blk.lt
  have hf := h.blk.free 7
  have hb := h.bound
  obtain ⟨q, hq⟩ : ∃ q, q = S.count := ⟨_, rfl⟩
  have k : Kp (fun j => j = r) w (w.setCell ⟨r, 7, none⟩ (.int .u64 ((q + 1 : Nat) : Int))) := Kp.of_grown (but_set w r 7 _)
  have hS : Hid (Se U (w.setCell ⟨r, 7, none⟩ (.int .u64 ((q + 1 : Nat) : Int))) r { S with count := q + 1 } M) := by
    refine h.put k ?_ rfl rfl rfl (by dsimp only; omega)
    have := h.blk.setC 7 (.int .u64 ((q + 1 : Nat) : Int))
    exact this
  have HK : Hid (Kp (fun j => j = r) w (w.setCell ⟨r, 7, none⟩ (.int .u64 ((q + 1 : Nat) : Int)))) := k
  have hlt : (q : Int) + 1 = ((q + 1 : Nat) : Int) := by omega
  have hlt2 : q + 1 ≤ 1000000 := by omega
  rw [← hq] at hc ⊢
  clear h k hq hb hn
  have hy : (((q + 1 : Nat) : Int)) = (q : Int) + 1 := by omega
  rw [hy] at hS HK ⊢
  clear hlt
  go_enter Tryz.func35, Tryz.ntmps35
  go_wp2_with fail
  go_ret
  exact ⟨rfl, hS.out, HK.out⟩

end Go.Proofs.YtjpejheipkfanaaGreatDoor

/-
  Contracts of layer 12's program's book: one thing more in it, what stands in it. Conditions: bytes of at most a million.
-/
namespace Go.Proofs.YtjpejheipkfanaaGreatDoor
open Go.RowKit
set_option linter.unusedVariables false

def zct : Value := ctv [] []
theorem zeroCt (w : World) : (zeroValue 68).run Tryz.prog w = .ok zct w := by kernel_rfl
theorem builtOp (k n b s : ByteArray) : Tryz.prog.built 74 [(0, .agg #[.string k, .string n]), (1, .string b), (2, .string s)] = some #[.string k, .string n, .string b, .string s] := by kernel_rfl
theorem sizePl : (Tryz.prog.info? 66).map (·.size) = some 2 := by kernel_rfl
theorem sizeCt : (Tryz.prog.info? 68).map (·.size) = some 2 := by kernel_rfl
theorem sizeOp : (Tryz.prog.info? 74).map (·.size) = some 4 := by kernel_rfl
theorem makesCt {ops : Array Oper} {i : Nat} {d : Tmp} {tp : TypeId} {pos : String} {aft : Array Edge} (hi : ops[i]? = some { dst := some d, op := .alloc 68, type := tp, pos := pos, after := aft, guard := none }) : Makes Tryz.prog ops i d #[sv [], sv []] 68 :=
  ⟨_, hi, rfl, rfl, fun ρ w => by unfold execOp; go_simp; rfl⟩
theorem sv_one (l : List UInt8) : (sv l).oneCell' = true := rfl
theorem two_one (b t : List UInt8) : ∀ v ∈ [sv b, sv t], v.oneCell' = true := by
  intro v hv
  simp only [List.mem_cons, List.not_mem_nil, or_false] at hv
  rcases hv with rfl | rfl <;> rfl
theorem fst_add_none {S : SeaS} {k n : List UInt8} (h : S.first k n = none) (b t s : List UInt8) : updK (fstK S) (k, n) (ctv b t) = fstK (S.add k n b t s) := by
  funext p
  unfold updK fstK
  rw [S.first_add]
  by_cases hp : p = (k, n)
  · subst hp
    dsimp only
    rw [if_pos rfl, h]
    simp
  · rw [if_neg hp]
    cases hf : S.first p.1 p.2 with
    | some e => rfl
    | none =>
      dsimp only
      rw [if_neg]
      · rintro ⟨rfl, rfl⟩
        exact hp rfl
theorem fst_add_some {S : SeaS} {k n : List UInt8} {e : Ent} (h : S.first k n = some e) (b t s : List UInt8) : fstK (S.add k n b t s) = fstK S := by
  funext p
  unfold fstK
  rw [S.first_add]
  cases hf : S.first p.1 p.2 with
  | some e => rfl
  | none =>
    dsimp only
    rw [if_neg]
    rintro ⟨rfl, rfl⟩
    rw [h] at hf
    cases hf
theorem txt_add {S : SeaS} {g : KeyO → Option Value} (h : TxtK S g) (k n b t s : List UInt8) (ht : fitW t) (hfr : S.ideal = true → S.known k n b s = none) : TxtK (S.add k n b t s) (updK g (k, n, b, s) (ctv b t)) := by
  intro o
  rw [S.known_add]
  have ho := h o
  unfold updK
  by_cases hp : o = (k, n, b, s)
  · subst hp
    rw [if_pos rfl]
    cases hk : S.known k n b s with
    | none =>
      dsimp only
      rw [if_pos ⟨rfl, rfl, rfl, rfl⟩]
      exact ⟨t, rfl, ht, fun _ => rfl⟩
    | some t0 =>
      dsimp only
      refine ⟨t, rfl, ht, fun hi => ?_⟩
      have hi' : S.ideal = true := hi
      rw [hfr hi'] at hk
      cases hk
  · rw [if_neg hp]
    cases hk : S.known o.1 o.2.1 o.2.2.1 o.2.2.2 with
    | none =>
      dsimp only
      rw [if_neg]
      · dsimp only
        rw [hk] at ho
        exact ho
      · rintro ⟨rfl, rfl, rfl, rfl⟩
        exact hp rfl
    | some t0 =>
      rw [hk] at ho
      exact ho
theorem Se.tne {U : Nat → Prop} {w : World} {r : Nat} {S : SeaS} {M : SeaM} (h : Se U w r S M) {g : Nat} (hg : Blk w g (cs tabT) 84) : g ≠ r := fun e => by
  have h4 := h.blk
  rw [e] at hg
  unfold Blk at hg h4
  rw [h4] at hg
  simp only [Option.some.injEq, Obj.cells.injEq] at hg
  exact absurd hg.2.1 (by decide)
/-- The book's two maps and its count were written. -/
theorem Se.added {U : Nat → Prop} {w w' : World} {r : Nat} {S : SeaS} {M : SeaM} (h : Se U w r S M) {k n b t s : List UInt8} (hb : Blk w' r (seC (S.add k n b t s) M) 55) (h1 : Mks kvP okKP w' M.m1 (fstK (S.add k n b t s))) {g : KeyO → Option Value} (hT : TxtK (S.add k n b t s) g) (h2 : Mks kvO okKO w' M.m2 g)
    (kp : Kp (fun j => j = r ∨ j = M.m1 ∨ j = M.m2) w w') (hn : S.count + S.book.length + 1 ≤ 1000000) : Se U w' r (S.add k n b t s) M ∧ Kp U w w' := by
  refine ⟨⟨fun j hj => Nat.lt_of_lt_of_le (h.lt j hj) kp.size, h.inR, hb, h.in1, h.in2, h.ne12, h1, ⟨g, h2, hT⟩, fun hi => ?_, fun hi => ?_, ?_⟩, kp.mono fun j _ hj => ?_⟩
  · obtain ⟨m3, a1, a2, a3, a4, a5⟩ := h.keys hi
    refine ⟨m3, a1, a2, a3, a4, a5.same (kp.block _ a5.lt ?_)⟩
    rintro (e | e | e)
    · exact (a5.notCells h.blk).symm e
    · exact a3 e
    · exact a4 e
  · obtain ⟨q, a1, a2, a3⟩ := h.tab hi
    obtain ⟨g2, b1, _⟩ := h.texts
    refine ⟨q, a1, a2, kp.blk a3 ?_⟩
    rintro (e | e | e)
    · exact h.tne a3 e
    · exact h.first.notCells a3 e
    · exact b1.notCells a3 e
  · have : (S.add k n b t s).book.length = S.book.length + 1 := by simp [SeaS.add]
    rw [this]
    exact hn
  · rcases hj with rfl | rfl | rfl
    · exact h.inR
    · exact h.in1
    · exact h.in2
theorem sv_beq (x y : List UInt8) : (ByteArray.mk x.toArray == ByteArray.mk y.toArray) = decide (x = y) := by
  by_cases h : x = y
  · subst h
    rw [decide_eq_true rfl]
    exact (MapKept.bytes_beq _ _).2 rfl
  · rw [decide_eq_false h, Bool.eq_false_iff]
    intro e
    have := (MapKept.bytes_beq _ _).1 e
    simp only [ByteArray.mk.injEq] at this
    exact h (by simpa using this)
theorem eqStr (d : Nat) (x y : List UInt8) (w : World) : Sem.run Tryz.prog (Op.equalIn (d + 1) 9 (sv x) (sv y)) w = .ok (decide (x = y)) w := by
  rw [← sv_beq]
  simp [Op.equalIn, run_underlying Tryz.underlying9, sv]
/-- Does something else stand there? -/
def SeaS.tells (S : SeaS) (k n b t : List UInt8) : Bool := match S.first k n with | some e => !decide (e.beside = b ∧ e.text = t) | none => false
/-- Bytes outlast what is written to a block of no bytes. -/
theorem Bs.kpCells {w w' : World} {a : Option Addr} {m c : Nat} {l : List UInt8} (h : Bs w a m c l) {r : Nat} (kp : Kp (fun j => j = r) w w') {vs : List Value} {t : TypeId} (hb : Blk w r vs t) (hn : ∀ (i : Nat) v, vs[i]? = some v → ∀ x, v ≠ .int .u8 x) : Bs w' a m c l := by
  obtain ⟨h1, h2, h3, h4, h5⟩ := h
  refine ⟨h1, h2, h3, h4, fun i hi => ?_⟩
  obtain ⟨b, o, ha, hc⟩ := h5 i hi
  refine ⟨b, o, ha, ?_⟩
  have hne : b ≠ r := fun e => by
    subst e
    rw [cell_of_row w b (o + i) vs.toArray t (0, 0) hb] at hc
    exact hn (o + i) _ (by simpa using hc) _ rfl
  rw [World.cell?_of_block (w := w) (kp.block b (lt_of_cell hc) hne)]
  exact hc
theorem seC_noByte {S : SeaS} {M : SeaM} {i : Nat} {v : Value} (h : (seC S M)[i]? = some v) : ∀ x, v ≠ .int .u8 x := by
  have hm := List.mem_of_getElem? h
  simp only [seC, List.mem_cons, List.not_mem_nil, or_false] at hm
  rcases hm with rfl | rfl | rfl | rfl | rfl | rfl | rfl | rfl | rfl <;> simp
theorem Bs.kpMap {κ : Type} {kv : κ → Value} {ok : κ → Prop} {w w' : World} {a : Option Addr} {m c : Nat} {l : List UInt8} (h : Bs w a m c l) {r : Nat} (kp : Kp (fun j => j = r) w w') {f : κ → Option Value} (hm : Mks kv ok w r f) : Bs w' a m c l := by
  obtain ⟨h1, h2, h3, h4, h5⟩ := h
  refine ⟨h1, h2, h3, h4, fun i hi => ?_⟩
  obtain ⟨b, o, ha, hc⟩ := h5 i hi
  refine ⟨b, o, ha, ?_⟩
  have hne : b ≠ r := fun e => by
    subst e
    obtain ⟨es, clock, hh, _⟩ := hm
    unfold World.cell? at hc
    rw [hh] at hc
    simp at hc
  rw [World.cell?_of_block (w := w) (kp.block b (lt_of_cell hc) hne)]
  exact hc

set_option maxRecDepth 100000 in
set_option maxHeartbeats 2000000 in
theorem oAddB (w : World) {U : Nat → Prop} {r : Nat} {S : SeaS} {M : SeaM} (h : Se U w r S M) {k n b t s : List UInt8} {a : Option Addr} {m c : Nat} (ha : Bs w a m c s) (fk : fitW k) (fn : fitW n) (fb : fitW b) (ft : fitW t) (fs : fitW s) (hfr : S.ideal = true → S.known k n b s = none) (hn : S.count + S.book.length + 1 ≤ 1000000) :
    Calls Tryz.prog 28 #[.pointer (some ⟨r, 2, none⟩), kvP (k, n), ctv b t, .slice a m c] w fun e w' => e = .returned (.bool (S.tells k n b t)) ∧ Se U w' r (S.add k n b t s) M ∧ Kp U w w' := by
  have HS : Hid (Se U w r S M) := h
  have hc : w.cell? ⟨r, 2, none⟩ = some (.int .i64 (S.book.length : Int)) := h.blk.cell 2
  have hl := h.blk.lt
  have hf := h.blk.free 2
  have hb := h.bound
  have HB : Hid (Blk w r (seC S M) 55) := h.blk
  have H1 : Hid (Mks kvP okKP w M.m1 (fstK S)) := h.first
  obtain ⟨g, hg2, hgT⟩ := h.texts
  have H2 : Hid (Mks kvO okKO w M.m2 g) := hg2
  have HT : Hid (TxtK S g) := hgT
  have HA : Hid (Bs w a m c s) := ha
  have HR : Hid (r ≠ M.m1 ∧ r ≠ M.m2 ∧ M.m1 ≠ M.m2) := ⟨h.first.notCells h.blk, hg2.notCells h.blk, h.ne12⟩
  clear h hg2 hgT ha
  obtain ⟨q, hq⟩ : ∃ q, q = S.book.length := ⟨_, rfl⟩
  rw [← hq] at hc
  have hq1 : q ≤ 1000000 := by omega
  have HQ : Hid (q = S.book.length) := hq
  clear hq hb
  have OKP : Hid (okKP (k, n)) := ⟨fk, fn⟩
  have OKO : Hid (okKO (k, n, b, s)) := ⟨fk, fn, fb, fs⟩
  unfold kvP ctv
  go_enter Tryz.func28, Tryz.ntmps28
  go_wp2_with fail
  obtain ⟨x5, h5⟩ : ∃ x, x = w.heap.size := ⟨_, rfl⟩
  obtain ⟨x6, h6⟩ : ∃ x, x = w.heap.size + 1 := ⟨_, rfl⟩
  have B5 : Hid (Blk (((w.setCell ⟨r, 2, none⟩ (.int .i64 ((q : Int) + 1))).alloc (.cells #[sv k, sv n] 66)).alloc (.cells #[sv b, sv t] 68)) x5 [sv k, sv n] 66) := by
    have := (Blk.new (w.setCell ⟨r, 2, none⟩ (.int .i64 ((q : Int) + 1))) #[sv k, sv n] 66).old (.cells #[sv b, sv t] 68)
    rw [show (w.setCell ⟨r, 2, none⟩ (.int .i64 ((q : Int) + 1))).heap.size = x5 from by rw [h5]; simp [World.setCell]] at this
    exact this
  have B6 : Hid (Blk (((w.setCell ⟨r, 2, none⟩ (.int .i64 ((q : Int) + 1))).alloc (.cells #[sv k, sv n] 66)).alloc (.cells #[sv b, sv t] 68)) x6 [sv b, sv t] 68) := by
    have := Blk.new ((w.setCell ⟨r, 2, none⟩ (.int .i64 ((q : Int) + 1))).alloc (.cells #[sv k, sv n] 66)) #[sv b, sv t] 68
    rw [show ((w.setCell ⟨r, 2, none⟩ (.int .i64 ((q : Int) + 1))).alloc (.cells #[sv k, sv n] 66)).heap.size = x6 from by rw [h6]; simp [World.setCell]] at this
    exact this
  have KP : Hid (Kp (fun j => j = r) w (((w.setCell ⟨r, 2, none⟩ (.int .i64 ((q : Int) + 1))).alloc (.cells #[sv k, sv n] 66)).alloc (.cells #[sv b, sv t] 68))) := (Kp.alloc (Kp.of_grown (but_set w r 2 _)) _).alloc _
  have BR : Hid (Blk (((w.setCell ⟨r, 2, none⟩ (.int .i64 ((q : Int) + 1))).alloc (.cells #[sv k, sv n] 66)).alloc (.cells #[sv b, sv t] 68)) r (seC (S.add k n b t s) M) 55) := by
    have := ((HB.out.setC 2 (.int .i64 ((q : Int) + 1))).old (.cells #[sv k, sv n] 66)).old (.cells #[sv b, sv t] 68)
    have e : (seC S M).set 2 (.int .i64 ((q : Int) + 1)) = seC (S.add k n b t s) M := by
      have : ((S.add k n b t s).book.length : Int) = (q : Int) + 1 := by simp [SeaS.add, HQ.out]
      unfold seC
      rw [this]
      rfl
    rw [e] at this
    exact this
  rw [← h6, ← h5]
  have hx5 : x5 < x6 ∧ w.heap.size ≤ x5 := by omega
  clear h5 h6 hc hf
  generalize ((w.setCell ⟨r, 2, none⟩ (.int .i64 ((q : Int) + 1))).alloc (.cells #[sv k, sv n] 66)).alloc (.cells #[sv b, sv t] 68) = w3 at *
  have M1 : Hid (Mks kvP okKP w3 M.m1 (fstK S)) := H1.out.same (KP.out.block _ H1.out.lt fun e => HR.out.1 e.symm)
  have M2 : Hid (Mks kvO okKO w3 M.m2 g) := H2.out.same (KP.out.block _ H2.out.lt fun e => HR.out.2.1 e.symm)
  have A3 : Hid (Bs w3 a m c s) := Bs.kpCells HA.out KP.out HB.out (fun i v hv => seC_noByte hv)
  obtain ⟨b0, t0, hX⟩ : ∃ b0 t0, ((fstK S) (k, n)).getD zct = .agg #[sv b0, sv t0] := by
    unfold fstK
    cases S.first k n with
    | none => exact ⟨[], [], rfl⟩
    | some e => exact ⟨e.beside, e.text, rfl⟩
  obtain ⟨tk, hTk⟩ : ∃ tk, ((fstK S) (k, n)).isSome = tk := ⟨_, rfl⟩
  have HX : Hid (((fstK S) (k, n)).getD zct = .agg #[sv b0, sv t0] ∧ ((fstK S) (k, n)).isSome = tk) := ⟨hX, hTk⟩
  refine regionG (S := Grows w3) (by kernel_rfl) (Below.refl _ w3).drew ?_
  have F3 : ∀ u, Grows w3 u → u.cell? ⟨r, 3, none⟩ = some (.map (some M.m1)) := fun u hu => (BR.out.grows hu).cell 3
  refine takeG 0 (some 19) (.pointer (some ⟨r, 2, none⟩)) rfl rfl (by kernel_rfl) (by kernel_rfl) (by kernel_rfl) (fun _ _ _ h => h) (ans_plain (by rfl) (fun w _ => rfl)) ?_
  simp only [Act.put, List.setIfInBounds_toArray, List.set_cons_zero, List.set_cons_succ]
  refine takeG 1 (some 20) (.pointer (some ⟨r, 2, none⟩)) rfl rfl (by kernel_rfl) (by kernel_rfl) (by kernel_rfl) (fun _ _ _ h => h) (ans_plain (by rfl) (fun w _ => by unfold execOp; go_simp)) ?_
  simp only [Act.put, List.setIfInBounds_toArray, List.set_cons_zero, List.set_cons_succ]
  refine takeG 2 (some 21) (.pointer (some ⟨r, 3, none⟩)) rfl rfl (by kernel_rfl) (by kernel_rfl) (by kernel_rfl) (fun _ _ _ h => h) (ans_plain (by rfl) (fun w _ => by unfold execOp; go_simp)) ?_
  simp only [Act.put, List.setIfInBounds_toArray, List.set_cons_zero, List.set_cons_succ]
  refine takeG 3 (some 22) (.map (some M.m1)) rfl rfl (by kernel_rfl) (by kernel_rfl) (by kernel_rfl) (fun _ _ _ h => h) (ans_plain (by rfl) (fun w h => by have hc := F3 w h; unfold execOp; go_simp)) ?_
  simp only [Act.put, List.setIfInBounds_toArray, List.set_cons_zero, List.set_cons_succ]
  refine takeG 4 (some 23) (.agg #[sv k, sv n]) rfl rfl (by kernel_rfl) (by kernel_rfl) (by kernel_rfl) (fun _ _ _ h => h) (ans_row 66 (.tmp 5) _ 2 rfl (by rfl) x5 0 rfl [sv k, sv n] (fun u hu => (B5.out.grows hu).whole) Tryz.underlying66 rfl rfl sizePl) ?_
  simp only [Act.put, List.setIfInBounds_toArray, List.set_cons_zero, List.set_cons_succ]
  refine takeG 5 (some 24) (.tuple #[((fstK S) (k, n)).getD zct, .bool ((fstK S) (k, n)).isSome]) rfl rfl (by kernel_rfl) (by kernel_rfl) (by kernel_rfl) (fun _ _ _ h => h) (ans_lookK (.tmp 22) (.tmp 23) 47 66 68 rfl (by rfl) keysP Tryz.underlying47 zct zeroCt M.m1 (fstK S) rfl (k, n) OKP.out rfl (fun u hu => M1.out.same (Below.block hu _ M1.out.lt))) ?_
  simp only [Act.put, List.setIfInBounds_toArray, List.set_cons_zero, List.set_cons_succ]
  rw [hX, hTk]
  clear hX hTk F3
  refine takeG 6 (some 18) (.tuple #[.agg #[sv b0, sv t0], .bool tk]) rfl rfl (by kernel_rfl) (by kernel_rfl) (by kernel_rfl) (fun _ _ _ h => h) (ans_plain (by rfl) (fun w _ => rfl)) ?_
  simp only [Act.put, List.setIfInBounds_toArray, List.set_cons_zero, List.set_cons_succ]
  refine takeG 7 (some 25) (.agg #[sv b0, sv t0]) rfl rfl (by kernel_rfl) (by kernel_rfl) (by kernel_rfl) (fun _ _ _ h => h) (ans_plain (by rfl) (fun w _ => by unfold execOp; go_simp)) ?_
  simp only [Act.put, List.setIfInBounds_toArray, List.set_cons_zero, List.set_cons_succ]
  refine takeG 8 (some 26) (.bool tk) rfl rfl (by kernel_rfl) (by kernel_rfl) (by kernel_rfl) (fun _ _ _ h => h) (ans_plain (by rfl) (fun w _ => by unfold execOp; go_simp)) ?_
  simp only [Act.put, List.setIfInBounds_toArray, List.set_cons_zero, List.set_cons_succ]
  refine alloc1 (fun _ _ h h' => Grows.trans h h') 9 9 (makesCt rfl) (by kernel_rfl) fun x9 w4 hg4 hs4 B9 hx9 => ?_
  simp only [Act.put, List.setIfInBounds_toArray, List.set_cons_zero, List.set_cons_succ]
  refine oneG 10 (by kernel_rfl) fun w5 hg5 hs5 => ?_
  refine opStR 10 68 (.tmp 9) (.tmp 25) 2 rfl rfl rfl rfl x9 _ [sv b0, sv t0] 68 (B9.grows hg5) rfl rfl (two_one _ _) sizeCt rfl rfl fun w6 B9' k6 => ?_
  have hx93 : w3.heap.size ≤ x9 := hx9
  have hs6 : Grows w3 w6 := Below.trans hs5 (k6.below (B := w3.heap.size) (Below.size hs5) (fun j hj e => by omega))
  refine ⟨hs6, ?_⟩
  refine takeG 11 (some 10) (.bool tk) rfl rfl (by kernel_rfl) (by kernel_rfl) (by kernel_rfl) (fun _ _ _ h => h) (ans_plain (by rfl) (fun w _ => rfl)) ?_
  simp only [Act.put, List.setIfInBounds_toArray, List.set_cons_zero, List.set_cons_succ]
  refine doneG (by kernel_rfl) fun w7 hg7 hs7 => ?_
  have B97 : Hid (Blk w7 x9 [sv b0, sv t0] 68) := B9'.grows hg7
  have B57 : Hid (Blk w7 x5 [sv k, sv n] 66) := B5.out.grows hs7
  have B67 : Hid (Blk w7 x6 [sv b, sv t] 68) := B6.out.grows hs7
  have BR7 : Hid (Blk w7 r (seC (S.add k n b t s) M) 55) := BR.out.grows hs7
  have M17 : Hid (Mks kvP okKP w7 M.m1 (fstK S)) := M1.out.same (Below.block hs7 _ M1.out.lt)
  have M27 : Hid (Mks kvO okKO w7 M.m2 g) := M2.out.same (Below.block hs7 _ M2.out.lt)
  have A7 : Hid (Bs w7 a m c s) := A3.out.below hs7 (Nat.le_refl _)
  have K7 : Hid (Kp (fun j => j = r) w w7) := KP.out.trans (Kp.of_below hs7)
  have HXX : Hid (x9 ≠ x6) := by
    show x9 ≠ x6
    have := B6.out.lt
    omega
  clear B9' B9 hg4 hs4 hg5 hs5 k6 hs6 hg7 hs7 M1 M2 A3 BR B5 B6 KP H1 H2 HB hx9 hx93 hx5 hl
  cases hfirst : S.first k n with
  | none =>
    have htk : tk = false := by rw [← HX.out.2]; unfold fstK; rw [hfirst]; rfl
    subst htk
    have HF : Hid (S.first k n = none) := hfirst
    have HTL : Hid (S.tells k n b t = false) := by show _ = _; unfold SeaS.tells; rw [hfirst]
    clear hfirst
    go_wp2_with fail
    have F3 : ∀ u, Grows w7 u → u.cell? ⟨r, 3, none⟩ = some (.map (some M.m1)) := fun u hu => (BR7.out.grows hu).cell 3
    refine regionE 6 (S := Grows w7) (by kernel_rfl) (Below.refl _ w7).drew ?_
    refine takeT 0 (some 29) (.pointer (some ⟨r, 2, none⟩)) rfl rfl (by kernel_rfl) (fun _ _ _ h => h) (ans_plain (by rfl) (fun w _ => rfl)) ?_
    simp only [Act.put, List.setIfInBounds_toArray, List.set_cons_zero, List.set_cons_succ]
    refine takeT 1 (some 30) (.pointer (some ⟨r, 2, none⟩)) rfl rfl (by kernel_rfl) (fun _ _ _ h => h) (ans_plain (by rfl) (fun w _ => by unfold execOp; go_simp)) ?_
    simp only [Act.put, List.setIfInBounds_toArray, List.set_cons_zero, List.set_cons_succ]
    refine takeT 2 (some 31) (.pointer (some ⟨r, 3, none⟩)) rfl rfl (by kernel_rfl) (fun _ _ _ h => h) (ans_plain (by rfl) (fun w _ => by unfold execOp; go_simp)) ?_
    simp only [Act.put, List.setIfInBounds_toArray, List.set_cons_zero, List.set_cons_succ]
    refine takeT 3 (some 32) (.map (some M.m1)) rfl rfl (by kernel_rfl) (fun _ _ _ h => h) (ans_plain (by rfl) (fun w h => by have hc := F3 w h; unfold execOp; go_simp)) ?_
    simp only [Act.put, List.setIfInBounds_toArray, List.set_cons_zero, List.set_cons_succ]
    refine takeT 4 (some 33) (.agg #[sv k, sv n]) rfl rfl (by kernel_rfl) (fun _ _ _ h => h) (ans_row 66 (.tmp 5) _ 2 rfl (by rfl) x5 0 rfl [sv k, sv n] (fun u hu => (B57.out.grows hu).whole) Tryz.underlying66 rfl rfl sizePl) ?_
    simp only [Act.put, List.setIfInBounds_toArray, List.set_cons_zero, List.set_cons_succ]
    refine takeT 5 (some 34) (.agg #[sv b, sv t]) rfl rfl (by kernel_rfl) (fun _ _ _ h => h) (ans_row 68 (.tmp 6) _ 2 rfl (by rfl) x6 0 rfl [sv b, sv t] (fun u hu => (B67.out.grows hu).whole) Tryz.underlying68 rfl rfl sizeCt) ?_
    simp only [Act.put, List.setIfInBounds_toArray, List.set_cons_zero, List.set_cons_succ]
    refine lastE (by kernel_rfl) (by kernel_rfl) (by kernel_rfl) (by kernel_rfl) fun w8 hg8 hs8 => ?_
    refine opMsetK 6 47 66 68 (.tmp 32) (.tmp 33) (.tmp 34) rfl rfl rfl rfl keysP Tryz.underlying47 M.m1 (fstK S) rfl (k, n) OKP.out rfl (ctv b t) rfl (M17.out.same (Below.block hs8 _ M17.out.lt)) fun w9 k19 hgr9 => ?_
    intro wA hgA
    have kA : Kp (fun j => j = M.m1) w7 wA := ((Kp.of_below hs8).trans (Kp.of_grown hgr9)).trans (Kp.of_below hgA)
    have M1A : Hid (Mks kvP okKP wA M.m1 (fstK (S.add k n b t s))) := by
      rw [fst_add_none HF.out b t s] at k19
      exact k19.same (Below.block hgA _ k19.lt)
    have M2A : Hid (Mks kvO okKO wA M.m2 g) := M27.out.same (kA.block _ M27.out.lt fun e => HR.out.2.2 e.symm)
    have B5A : Hid (Blk wA x5 [sv k, sv n] 66) := kA.blk B57.out (M17.out.notCells B57.out)
    have B6A : Hid (Blk wA x6 [sv b, sv t] 68) := kA.blk B67.out (M17.out.notCells B67.out)
    have BRA : Hid (Blk wA r (seC (S.add k n b t s) M) 55) := kA.blk BR7.out (M17.out.notCells BR7.out)
    have AA : Hid (Bs wA a m c s) := Bs.kpMap A7.out kA M17.out
    have KA : Hid (Kp (fun j => j = r ∨ j = M.m1 ∨ j = M.m2) w wA) := (K7.out.mono fun j _ e => Or.inl e).trans (kA.mono fun j _ e => Or.inr (Or.inl e))
    clear kA k19 hgr9 hgA hg8 hs8 F3 M17 M27 B57 B67 BR7 A7 K7
    go_wp2_with fail
    have F4 : ∀ u, Grows wA u → u.cell? ⟨r, 4, none⟩ = some (.map (some M.m2)) := fun u hu => (BRA.out.grows hu).cell 4
    have F6 : ∀ u, Grows wA u → u.cell? ⟨x6, 0, none⟩ = some (sv b) := fun u hu => (B6A.out.grows hu).cell 0
    refine regionE 11 (S := Grows wA) (by kernel_rfl) (Below.refl _ wA).drew ?_
    refine takeT 0 (some 35) (.pointer (some ⟨r, 2, none⟩)) rfl rfl (by kernel_rfl) (fun _ _ _ h => h) (ans_plain (by rfl) (fun w _ => rfl)) ?_
    simp only [Act.put, List.setIfInBounds_toArray, List.set_cons_zero, List.set_cons_succ]
    refine takeT 1 (some 36) (.pointer (some ⟨r, 2, none⟩)) rfl rfl (by kernel_rfl) (fun _ _ _ h => h) (ans_plain (by rfl) (fun w _ => by unfold execOp; go_simp)) ?_
    simp only [Act.put, List.setIfInBounds_toArray, List.set_cons_zero, List.set_cons_succ]
    refine takeT 2 (some 37) (.pointer (some ⟨r, 4, none⟩)) rfl rfl (by kernel_rfl) (fun _ _ _ h => h) (ans_plain (by rfl) (fun w _ => by unfold execOp; go_simp)) ?_
    simp only [Act.put, List.setIfInBounds_toArray, List.set_cons_zero, List.set_cons_succ]
    refine takeT 3 (some 38) (.map (some M.m2)) rfl rfl (by kernel_rfl) (fun _ _ _ h => h) (ans_plain (by rfl) (fun w h => by have hc := F4 w h; unfold execOp; go_simp)) ?_
    simp only [Act.put, List.setIfInBounds_toArray, List.set_cons_zero, List.set_cons_succ]
    refine takeT 4 (some 39) (.agg #[sv k, sv n]) rfl rfl (by kernel_rfl) (fun _ _ _ h => h) (ans_row 66 (.tmp 5) _ 2 rfl (by rfl) x5 0 rfl [sv k, sv n] (fun u hu => (B5A.out.grows hu).whole) Tryz.underlying66 rfl rfl sizePl) ?_
    simp only [Act.put, List.setIfInBounds_toArray, List.set_cons_zero, List.set_cons_succ]
    refine takeT 5 (some 40) (.pointer (some ⟨x6, 0, none⟩)) rfl rfl (by kernel_rfl) (fun _ _ _ h => h) (ans_plain (by rfl) (fun w _ => by unfold execOp; go_simp)) ?_
    simp only [Act.put, List.setIfInBounds_toArray, List.set_cons_zero, List.set_cons_succ]
    refine takeT 6 (some 41) (sv b) rfl rfl (by kernel_rfl) (fun _ _ _ h => h) (ans_plain (by rfl) (fun w h => by have hc := F6 w h; unfold execOp; go_simp)) ?_
    simp only [Act.put, List.setIfInBounds_toArray, List.set_cons_zero, List.set_cons_succ]
    refine takeT 7 (some 42) (.slice a m c) rfl rfl (by kernel_rfl) (fun _ _ _ h => h) (ans_plain (by rfl) (fun w _ => rfl)) ?_
    simp only [Act.put, List.setIfInBounds_toArray, List.set_cons_zero, List.set_cons_succ]
    refine takeT 8 (some 43) (sv s) rfl rfl (by kernel_rfl) (fun _ _ _ h => h) (ans_str (.tmp 42) rfl (by rfl) a m c s rfl (fun u hu => AA.out.below hu (Nat.le_refl _))) ?_
    simp only [Act.put, List.setIfInBounds_toArray, List.set_cons_zero, List.set_cons_succ]
    refine takeT 9 (some 44) (.agg #[sv k, sv n, sv b, sv s]) rfl rfl (by kernel_rfl) (fun _ _ _ h => h) (ans_bdK 74 [(0, .tmp 39), (1, .tmp 41), (2, .tmp 43)] [(0, .agg #[sv k, sv n]), (1, sv b), (2, sv s)] _ rfl (by rfl) rfl (builtOp _ _ _ _)) ?_
    simp only [Act.put, List.setIfInBounds_toArray, List.set_cons_zero, List.set_cons_succ]
    refine takeT 10 (some 45) (.agg #[sv b, sv t]) rfl rfl (by kernel_rfl) (fun _ _ _ h => h) (ans_row 68 (.tmp 6) _ 2 rfl (by rfl) x6 0 rfl [sv b, sv t] (fun u hu => (B6A.out.grows hu).whole) Tryz.underlying68 rfl rfl sizeCt) ?_
    simp only [Act.put, List.setIfInBounds_toArray, List.set_cons_zero, List.set_cons_succ]
    refine lastE (by kernel_rfl) (by kernel_rfl) (by kernel_rfl) (by kernel_rfl) fun u8 hu8 hv8 => ?_
    refine opMsetK 11 48 74 68 (.tmp 38) (.tmp 44) (.tmp 45) rfl rfl rfl rfl keysO Tryz.underlying48 M.m2 g rfl (k, n, b, s) OKO.out rfl (ctv b t) rfl (M2A.out.same (Below.block hv8 _ M2A.out.lt)) fun u9 k29 hgu9 => ?_
    intro uA hgA2
    have kB : Kp (fun j => j = M.m2) wA uA := ((Kp.of_below hv8).trans (Kp.of_grown hgu9)).trans (Kp.of_below hgA2)
    have FIN := HS.out.added (kB.blk BRA.out (M2A.out.notCells BRA.out)) (M1A.out.same (kB.block _ M1A.out.lt HR.out.2.2)) (txt_add HT.out k n b t s ft hfr) (k29.same (Below.block hgA2 _ k29.lt)) (KA.out.trans (kB.mono fun j _ e => Or.inr (Or.inr e))) hn
    clear kB k29 hgu9 hgA2 hu8 hv8 F4 F6 M1A M2A B5A B6A BRA AA KA B97
    go_wp2_with fail
    go_ret
    exact ⟨by rw [HTL.out]; rfl, FIN⟩
  | some e0 =>
    have htk : tk = true := by rw [← HX.out.2]; unfold fstK; rw [hfirst]; rfl
    subst htk
    have HF : Hid (S.first k n = some e0) := hfirst
    have h0 : e0.beside = b0 ∧ e0.text = t0 := by
      have := HX.out.1
      unfold fstK at this
      rw [hfirst] at this
      simp only [Option.map_some, Option.getD_some, ctv, Value.agg.injEq, Array.mk.injEq, List.cons.injEq, and_true] at this
      exact ⟨sv_inj this.1, sv_inj this.2⟩
    have HTL : Hid (S.tells k n b t = !decide (b0 = b ∧ t0 = t)) := by show _ = _; unfold SeaS.tells; rw [hfirst, ← h0.1, ← h0.2]
    clear hfirst h0
    go_wp2_with fail
    have F4 : ∀ u, Grows w7 u → u.cell? ⟨r, 4, none⟩ = some (.map (some M.m2)) := fun u hu => (BR7.out.grows hu).cell 4
    have F6 : ∀ u, Grows w7 u → u.cell? ⟨x6, 0, none⟩ = some (sv b) := fun u hu => (B67.out.grows hu).cell 0
    refine regionE 11 (S := Grows w7) (by kernel_rfl) (Below.refl _ w7).drew ?_
    refine takeT 0 (some 35) (.pointer (some ⟨r, 2, none⟩)) rfl rfl (by kernel_rfl) (fun _ _ _ h => h) (ans_plain (by rfl) (fun w _ => rfl)) ?_
    simp only [Act.put, List.setIfInBounds_toArray, List.set_cons_zero, List.set_cons_succ]
    refine takeT 1 (some 36) (.pointer (some ⟨r, 2, none⟩)) rfl rfl (by kernel_rfl) (fun _ _ _ h => h) (ans_plain (by rfl) (fun w _ => by unfold execOp; go_simp)) ?_
    simp only [Act.put, List.setIfInBounds_toArray, List.set_cons_zero, List.set_cons_succ]
    refine takeT 2 (some 37) (.pointer (some ⟨r, 4, none⟩)) rfl rfl (by kernel_rfl) (fun _ _ _ h => h) (ans_plain (by rfl) (fun w _ => by unfold execOp; go_simp)) ?_
    simp only [Act.put, List.setIfInBounds_toArray, List.set_cons_zero, List.set_cons_succ]
    refine takeT 3 (some 38) (.map (some M.m2)) rfl rfl (by kernel_rfl) (fun _ _ _ h => h) (ans_plain (by rfl) (fun w h => by have hc := F4 w h; unfold execOp; go_simp)) ?_
    simp only [Act.put, List.setIfInBounds_toArray, List.set_cons_zero, List.set_cons_succ]
    refine takeT 4 (some 39) (.agg #[sv k, sv n]) rfl rfl (by kernel_rfl) (fun _ _ _ h => h) (ans_row 66 (.tmp 5) _ 2 rfl (by rfl) x5 0 rfl [sv k, sv n] (fun u hu => (B57.out.grows hu).whole) Tryz.underlying66 rfl rfl sizePl) ?_
    simp only [Act.put, List.setIfInBounds_toArray, List.set_cons_zero, List.set_cons_succ]
    refine takeT 5 (some 40) (.pointer (some ⟨x6, 0, none⟩)) rfl rfl (by kernel_rfl) (fun _ _ _ h => h) (ans_plain (by rfl) (fun w _ => by unfold execOp; go_simp)) ?_
    simp only [Act.put, List.setIfInBounds_toArray, List.set_cons_zero, List.set_cons_succ]
    refine takeT 6 (some 41) (sv b) rfl rfl (by kernel_rfl) (fun _ _ _ h => h) (ans_plain (by rfl) (fun w h => by have hc := F6 w h; unfold execOp; go_simp)) ?_
    simp only [Act.put, List.setIfInBounds_toArray, List.set_cons_zero, List.set_cons_succ]
    refine takeT 7 (some 42) (.slice a m c) rfl rfl (by kernel_rfl) (fun _ _ _ h => h) (ans_plain (by rfl) (fun w _ => rfl)) ?_
    simp only [Act.put, List.setIfInBounds_toArray, List.set_cons_zero, List.set_cons_succ]
    refine takeT 8 (some 43) (sv s) rfl rfl (by kernel_rfl) (fun _ _ _ h => h) (ans_str (.tmp 42) rfl (by rfl) a m c s rfl (fun u hu => A7.out.below hu (Nat.le_refl _))) ?_
    simp only [Act.put, List.setIfInBounds_toArray, List.set_cons_zero, List.set_cons_succ]
    refine takeT 9 (some 44) (.agg #[sv k, sv n, sv b, sv s]) rfl rfl (by kernel_rfl) (fun _ _ _ h => h) (ans_bdK 74 [(0, .tmp 39), (1, .tmp 41), (2, .tmp 43)] [(0, .agg #[sv k, sv n]), (1, sv b), (2, sv s)] _ rfl (by rfl) rfl (builtOp _ _ _ _)) ?_
    simp only [Act.put, List.setIfInBounds_toArray, List.set_cons_zero, List.set_cons_succ]
    refine takeT 10 (some 45) (.agg #[sv b, sv t]) rfl rfl (by kernel_rfl) (fun _ _ _ h => h) (ans_row 68 (.tmp 6) _ 2 rfl (by rfl) x6 0 rfl [sv b, sv t] (fun u hu => (B67.out.grows hu).whole) Tryz.underlying68 rfl rfl sizeCt) ?_
    simp only [Act.put, List.setIfInBounds_toArray, List.set_cons_zero, List.set_cons_succ]
    refine lastE (by kernel_rfl) (by kernel_rfl) (by kernel_rfl) (by kernel_rfl) fun u8 hu8 hv8 => ?_
    refine opMsetK 11 48 74 68 (.tmp 38) (.tmp 44) (.tmp 45) rfl rfl rfl rfl keysO Tryz.underlying48 M.m2 g rfl (k, n, b, s) OKO.out rfl (ctv b t) rfl (M27.out.same (Below.block hv8 _ M27.out.lt)) fun u9 k29 hgu9 => ?_
    intro uA hgA2
    have kB : Kp (fun j => j = M.m2) w7 uA := ((Kp.of_below hv8).trans (Kp.of_grown hgu9)).trans (Kp.of_below hgA2)
    have M1A : Mks kvP okKP w7 M.m1 (fstK (S.add k n b t s)) := by
      rw [fst_add_some HF.out b t s]
      exact M17.out
    have FIN : Hid (Se U uA r (S.add k n b t s) M ∧ Kp U w uA) := HS.out.added (kB.blk BR7.out (M27.out.notCells BR7.out)) (M1A.same (kB.block _ M1A.lt HR.out.2.2)) (txt_add HT.out k n b t s ft hfr) (k29.same (Below.block hgA2 _ k29.lt)) (((K7.out.mono fun j _ e => Or.inl e).trans (kB.mono fun j _ e => Or.inr (Or.inr e)))) hn
    have B9A := kB.blk B97.out (M27.out.notCells B97.out)
    have B6A := kB.blk B67.out (M27.out.notCells B67.out)
    have c90 : uA.cell? ⟨x9, 0, none⟩ = some (sv b0) := B9A.cell 0
    have c91 : uA.cell? ⟨x9, 1, none⟩ = some (sv t0) := B9A.cell 1
    have c60 : uA.cell? ⟨x6, 0, none⟩ = some (sv b) := B6A.cell 0
    have c61 : uA.cell? ⟨x6, 1, none⟩ = some (sv t) := B6A.cell 1
    have l9 := B9A.lt
    have l6 := B6A.lt
    obtain ⟨D1, hD1⟩ : ∃ D, D = decide (b0 = b) := ⟨_, rfl⟩
    obtain ⟨D2, hD2⟩ : ∃ D, D = decide (t0 = t) := ⟨_, rfl⟩
    have E1 : ∀ w, Sem.run Tryz.prog (Op.equalIn 9999 9 (sv b0) (sv b)) w = .ok D1 w := fun w => by rw [hD1]; exact eqStr 9998 b0 b w
    have E2 : ∀ w, Sem.run Tryz.prog (Op.equalIn 9999 9 (sv t0) (sv t)) w = .ok D2 w := fun w => by rw [hD2]; exact eqStr 9998 t0 t w
    have HTL' : Hid (S.tells k n b t = !(D1 && D2)) := by
      show _ = _
      rw [HTL.out, hD1, hD2]
      by_cases x1 : b0 = b <;> by_cases x2 : t0 = t <;> simp [x1, x2]
    clear HTL hD1 hD2
    clear kB k29 hgu9 hgA2 hu8 hv8 F4 F6 M1A M17 M27 B57 B67 BR7 A7 K7 B97 B9A B6A
    cases D1 <;> cases D2 <;> (go_wp2_with fail; go_ret; exact ⟨by rw [HTL'.out]; rfl, FIN.out⟩)

end Go.Proofs.YtjpejheipkfanaaGreatDoor

/-
  The contract of layer 6's mask: the sealed block of a nonce and a number; and of how many bits a text has, in eight bytes. Conditions: the cipher lies where the pointer leads; a nonce of 12 bytes; a number below 2^32; a text of at most 900 bytes.
-/
namespace Go.Proofs.YtjpejheipkfanaaGreatDoor
open Go.RowKit

/-- A literal of two slices in memory, in whatever world has grown of the one behind it. -/
theorem bss2 {w w' : World} {a1 a2 : Option Addr} {n1 c1 n2 c2 : Nat} {l1 l2 : List UInt8} (h1 : Bs w a1 n1 c1 l1) (h2 : Bs w a2 n2 c2 l2) (hg : Grows (w.alloc (.cells #[.slice a1 n1 c1, .slice a2 n2 c2] 32)) w') : Bss w' (some ⟨w.heap.size, 0, none⟩) 2 2 [l1, l2] :=
  (Bss.two h1 h2).below hg (Nat.le_refl _)

set_option maxRecDepth 100000 in
set_option maxHeartbeats 2000000 in
theorem oMask (w : World) {r : Nat} {K nonce : List UInt8} {an : Option Addr} {cn : Nat} (hC : Cip w r K) (hK : K.length = 240) (hn : Bs w an 12 cn nonce) (n : Nat) (hN : n < 4294967296) :
    Calls Tryz.prog 95 #[.pointer (some ⟨r, 0, none⟩), .slice an 12 cn, .int .u64 (n : Int)] w fun e w' => e = .returned (bv (ctrK K nonce n)) ∧ Below w.heap.size w w' := by
  have HNL : Hid (nonce.length = 12) := hn.len
  have hrl := hC.tab.lt
  have HPL : Hid ((putL n 4).length = 4) := putL_length 4 n
  have CP : Hid (∀ w, Calls Tryz.prog 30 #[.int .u64 (n : Int), .int .i64 4] w (Gives w (putL n 4))) := fun w => by
    have := oPut (n : Int) 4 w (by omega) (by omega) (by omega) (by omega)
    rw [Int.toNat_natCast] at this
    exact this
  have HX : Hid (ctrK K nonce n = aesL K (nonce ++ putL n 4)) := rfl
  have HXL : Hid ((ctrK K nonce n).length = 16) := ctrK_length hK HNL.out n
  have HBL : Hid ((nonce ++ putL n 4).length = 16) := by show _ = _; rw [List.length_append, HNL.out, HPL.out]
  generalize ctrK K nonce n = X at *
  generalize putL n 4 = P at *
  go_enter Tryz.func95, Tryz.ntmps95
  go_wp2_with fail
  obtain ⟨W, hW⟩ : ∃ W, W = (w.alloc (.cells z16 122)).alloc (.cells z16 122) := ⟨_, rfl⟩
  rw [← hW]
  have d0 : Blk W w.heap.size (cs (List.replicate 16 0)) 122 := by rw [hW]; exact (Blk.new w _ _).old _
  have d1 : Blk W (w.heap.size + 1) (cs (List.replicate 16 0)) 122 := by rw [hW]; exact Blk.newAt (w.alloc _) z16 _ _ (by simp) _ rfl
  have q0 : Below w.heap.size w W := by rw [hW]; exact below2 w _ _
  have hC0 := hC.below q0 hrl
  have hn0 := hn.below q0 (Nat.le_refl _)
  clear hW
  refine regionG (S := fun _ => True) (by kernel_rfl) trivial ?_
  refine takeG 0 (some 8) (.slice (some ⟨w.heap.size + 1, 0, none⟩) 16 16) rfl rfl (by kernel_rfl) (by kernel_rfl) (by kernel_rfl) (fun _ _ _ h => h) (ans_all (.tmp 7) rfl (by rfl) (w.heap.size + 1) rfl) ?_
  simp only [Act.put, List.setIfInBounds_toArray, List.set_cons_zero, List.set_cons_succ]
  refine takeG 1 (some 9) (.slice an 12 cn) rfl rfl (by kernel_rfl) (by kernel_rfl) (by kernel_rfl) (fun _ _ _ h => h) (ans_plain (by rfl) (fun w _ => rfl)) ?_
  simp only [Act.put, List.setIfInBounds_toArray, List.set_cons_zero, List.set_cons_succ]
  refine takeG 2 (some 10) (.int .u64 (n : Int)) rfl rfl (by kernel_rfl) (by kernel_rfl) (by kernel_rfl) (fun _ _ _ h => h) (ans_plain (by rfl) (fun w _ => rfl)) ?_
  simp only [Act.put, List.setIfInBounds_toArray, List.set_cons_zero, List.set_cons_succ]
  refine callG 3 (some 11) 30 #[.tmp 10, .const (.int .i64 4)] #[29, 3] #[.int .u64 (n : Int), .int .i64 4] rfl rfl rfl (by rfl) (by rfl) (by kernel_rfl) Tryz.call30 fun u1 hg1 _ => ?_
  have g1 : Grows W u1 := Grows.trans (Below.refl _ W).drew hg1
  refine (CP.out u1).mono ?_
  rintro e u2 ⟨p2, m2, x2, rfl, ho2, hG2⟩
  have g2 : Grows W u2 := Grows.trans g1 hG2
  refine ⟨_, rfl, trivial, ?_⟩
  simp only [Act.put, List.setIfInBounds_toArray, List.set_cons_zero, List.set_cons_succ]
  refine oneG 4 (by kernel_rfl) fun u3 hg3 _ => ?_
  have g3 : Grows W u3 := Grows.trans g2 hg3
  refine opBS2 (some 12) rfl rfl rfl (.tmp 9) (.tmp 11) rfl an p2 12 cn m2 x2 rfl rfl ?_
  refine ⟨trivial, ?_⟩
  simp only [Act.put, List.setIfInBounds_toArray, List.set_cons_zero, List.set_cons_succ]
  refine callG 5 (some 13) 29 #[.tmp 12] #[63] #[.slice (some ⟨u3.heap.size, 0, none⟩) 2 2] rfl rfl rfl (by rfl) (by rfl) (by kernel_rfl) Tryz.call29 fun u4 hg4 _ => ?_
  have g4 : Grows W u4 := Grows.trans g3 (Grows.trans (Grows.alloc _ _) hg4)
  refine (oJoinB u4 (bss2 (hn0.grows g3) (ho2.toBs.grows hg3) hg4) (by rw [HNL.out, HPL.out]; omega)).mono ?_
  rintro e u5 ⟨p5, m5, x5, rfl, ho5, hG5⟩
  have g5 : Grows W u5 := Grows.trans g4 hG5
  have hm5 : m5 = 16 := by rw [← ho5.toBs.len]; exact HBL.out
  subst hm5
  refine ⟨_, rfl, trivial, ?_⟩
  simp only [Act.put, List.setIfInBounds_toArray, List.set_cons_zero, List.set_cons_succ]
  refine oneG 6 (by kernel_rfl) fun u6 hg6 _ => ?_
  have g6 : Grows W u6 := Grows.trans g5 hg6
  have d6 := d1.grows g6
  refine opCp (some 14) rfl rfl rfl (.tmp 8) (.tmp 13) rfl (w.heap.size + 1) 0 16 16 rfl p5 16 x5 rfl _ (ho5.toBs.grows hg6) _ _ d6 16 rfl (by rw [cs_length]; simp) (by omega) fun u7 hc7 => ⟨trivial, ?_⟩
  simp only [Act.put, List.setIfInBounds_toArray, List.set_cons_zero, List.set_cons_succ]
  have e7 : Blk u7 (w.heap.size + 1) (cs (nonce ++ P)) 122 := by
    have := hc7.blk
    rw [List.take_zero, List.nil_append, List.take_of_length_le (by rw [HBL.out]; omega), List.drop_eq_nil_of_le (by rw [cs_length]; simp), List.append_nil] at this
    exact this
  have d7 := hc7.other (d0.grows g6) (by omega)
  have q7 : Below w.heap.size w u7 := hc7.below (q0.trans (Below.mono g6 q0.size)) (by omega) (Nat.le_trans q0.size (Below.size g6))
  have C7 := hC.below q7 hrl
  clear hc7
  refine doneG (by kernel_rfl) fun u8 hg8 _ => ?_
  have e8 := e7.grows hg8
  have d8 := d7.grows hg8
  have q8 : Below w.heap.size w u8 := q7.trans (Below.mono hg8 q7.size)
  have C8 := C7.below hg8 (Nat.lt_of_lt_of_le hrl q7.size)
  generalize nonce ++ P = B at *
  clear e7 d7 q7 C7 g6 g5 g4 g3 g2 g1 hG5 hG2 hg1 hg3 hg4 hg6 hg8 d6
  go_wp2_with fail
  refine regionG (S := fun x => Blk x (w.heap.size + 1) (cs B) 122 ∧ Cip x r K) (by kernel_rfl) ⟨e8.dr, C8.dr⟩ ?_
  refine takeG 0 (some 15) (.pointer (some ⟨r, 0, none⟩)) rfl rfl (by kernel_rfl) (by kernel_rfl) (by kernel_rfl) (fun _ _ _ h => h) (ans_plain (by rfl) (fun w _ => rfl)) ?_
  simp only [Act.put, List.setIfInBounds_toArray, List.set_cons_zero, List.set_cons_succ]
  refine takeG 1 (some 16) (.pointer (some ⟨r, 0, none⟩)) rfl rfl (by kernel_rfl) (by kernel_rfl) (by kernel_rfl) (fun _ _ _ h => h) (ans_plain (by rfl) (fun w _ => rfl)) ?_
  simp only [Act.put, List.setIfInBounds_toArray, List.set_cons_zero, List.set_cons_succ]
  refine takeG 2 (some 17) (.pointer (some ⟨r, 0, none⟩)) rfl rfl (by kernel_rfl) (by kernel_rfl) (by kernel_rfl) (fun _ _ _ h => h) (ans_plain (by rfl) (fun w _ => by unfold execOp; go_simp)) ?_
  simp only [Act.put, List.setIfInBounds_toArray, List.set_cons_zero, List.set_cons_succ]
  refine takeG 3 (some 18) (bv B) rfl rfl (by kernel_rfl) (by kernel_rfl) (by kernel_rfl) (fun _ _ _ h => h) (ans_ld16 (.tmp 7) rfl (by rfl) (w.heap.size + 1) B HBL.out rfl (fun w h => h.1)) ?_
  simp only [Act.put, List.setIfInBounds_toArray, List.set_cons_zero, List.set_cons_succ]
  refine takeG 4 (some 19) (bv X) rfl rfl (by kernel_rfl) (by kernel_rfl) (by kernel_rfl) (fun _ _ _ h => h) (ans_call 66 #[.tmp 17, .tmp 18] #[127, 122] #[.pointer (some ⟨r, 0, none⟩), bv B] rfl (by rfl) (by rfl) Tryz.call66 fun u h => (oBlock u r K h.2 hK B HBL.out).mono fun _ _ hh => ⟨by rw [HX.out]; exact hh.1, hh.2, h.1.grows hh.2, h.2.below hh.2 h.2.tab.lt⟩) ?_
  simp only [Act.put, List.setIfInBounds_toArray, List.set_cons_zero, List.set_cons_succ]
  refine oneG 5 (by kernel_rfl) fun u9 hg9 hs9 => ?_
  have g9 : Grows u8 u9 := Grows.trans (Below.refl _ u8).drew hg9
  have d9 := d8.grows g9
  refine opSt16 5 (.tmp 6) (.tmp 19) rfl rfl rfl rfl w.heap.size X HXL.out _ (by rw [cs_length]; rfl) d9 rfl rfl fun ua ba oa la => ?_
  have qa : Below w.heap.size w ua := la _ _ (Nat.le_refl _) (q8.trans (Below.mono g9 q8.size))
  refine ⟨⟨oa _ _ _ (by omega) hs9.1, hC.below qa hrl⟩, ?_⟩
  refine doneG (by kernel_rfl) fun ub hgb hsb => ?_
  have bb := ba.grows hgb
  have B2 : Hid (Blk ub w.heap.size (cs X) 122) := bb
  have HC : Hid ((cs X).length = 16) := by show _ = _; rw [cs_length, HXL.out]
  have qb : Below w.heap.size w ub := qa.trans (Below.mono hgb qa.size)
  clear bb
  go_wp2_with fail
  exact bodyPost_ret (v := bv X) (res_blk Tryz.results95 _ _ w.heap.size _ _ _ rfl B2.out Tryz.underlying122 16 HC.out sizeK) rfl ⟨rfl, qb⟩

set_option maxHeartbeats 1000000 in
theorem oBitsT (w : World) {a : Option Addr} {n c : Nat} (hz : n ≤ 900) : Calls Tryz.prog 97 #[.slice a n c] w (Gives w (putL (8 * n) 8)) := by
  have CP : Hid (∀ w, Calls Tryz.prog 30 #[.int .u64 (8 * (n : Int)), .int .i64 8] w (Gives w (putL (8 * n) 8))) := fun w => by
    have := oPut ((8 * n : Nat) : Int) 8 w (by omega) (by omega) (by omega) (by omega)
    rw [Int.toNat_natCast, show ((8 * n : Nat) : Int) = 8 * (n : Int) from by omega] at this
    exact this
  have i1 : IntKind.u64.wrap (n : Int) = (n : Int) := by rw [IntKind.wrap_u64]; omega
  have i3 : (n : Int) % 18446744073709551616 = (n : Int) := by omega
  have i5 : IntKind.u64.wrap (8 * (n : Int)) = 8 * (n : Int) := by rw [IntKind.wrap_u64]; omega
  have i7 : 8 * (n : Int) % 18446744073709551616 = 8 * (n : Int) := by omega
  generalize putL (8 * n) 8 = X at *
  go_enter Tryz.func97, Tryz.ntmps97
  go_wp2_with fail
  refine (CP.out w).mono ?_
  rintro e w2 ⟨a2, m2, c2, rfl, ho2, hb2⟩
  go_wp2
  go_ret
  exact Gives.mk ho2 hb2

end Go.Proofs.YtjpejheipkfanaaGreatDoor
