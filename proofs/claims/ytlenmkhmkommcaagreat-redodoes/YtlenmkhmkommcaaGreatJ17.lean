/-
  5 texts in one. No statement of the seat is proved here.
-/
import Derived.Test.YtlenmkhmkommcaaGreatJ16
import Derived.Deep.MidRow
/-
  Rows of a region that draws its order, for layer 6's program: whole arrays of 16 bytes, a literal of two slices, a copy, calls of a function that lies in a variable. No condition; no statement of the seat is proved here.
-/
namespace Go.Proofs.YtlenmkhmkommcaaGreat
open Go.RowKit

end Go.Proofs.YtlenmkhmkommcaaGreat

/-
  Contracts of layer 12's program: what a sealer tells of itself, the next noise, whether a key and a nonce fit, a new sealer; rows of regions over texts and maps. Conditions: none beside the sealer in memory.
-/
namespace Go.Proofs.YtlenmkhmkommcaaGreat
open Go.RowKit
set_option linter.unusedVariables false

/-- 'string(b)', in a region that draws. -/
theorem ans_str {ops : Array Oper} {S : World → Prop} {oi : Oper} {a : Act} (x : Operand) (ho : oi.op = .convert 26 9 x) (hw : Region.wanted oi (yielded ops a.tmps) = true) (p : Option Addr) (m c : Nat) (l : List UInt8) (hx : a.eval x = .slice p m c) (hb : ∀ w, S w → Bs w p m c l) : Ans Tryz.prog ops S oi (sv l) a :=
  ans_plain hw fun w hs => by simp [execOp, ho, hx, (hb w hs).str, Result.andThen]
/-- A map is asked, in a region that draws. -/
theorem ans_lookK {κ : Type} {kv : κ → Value} {ok : κ → Prop} {ops : Array Oper} {S : World → Prop} {oi : Oper} {a : Act} (x y : Operand) (T K E : TypeId) (ho : oi.op = Op.lookup T x y true) (hw : Region.wanted oi (yielded ops a.tmps) = true) (hK : KeyS K kv ok) (hm : Tryz.prog.underlying T = some (.map K E)) (z : Value) (hz : ∀ w, (zeroValue E).run Tryz.prog w = .ok z w)
    (m : Nat) (f : κ → Option Value) (hx : a.eval x = .map (some m)) (k : κ) (hk : ok k) (hy : a.eval y = kv k) (h : ∀ w, S w → Mks kv ok w m f) : Ans Tryz.prog ops S oi (.tuple #[(f k).getD z, .bool (f k).isSome]) a :=
  ans_plain hw fun w hs => by simp [execOp, ho, hx, hy, (h w hs).look hK hm (hz w) k hk, Result.andThen]
/-- A map is written, as one operation. -/
theorem opMsetK {κ : Type} [DecidableEq κ] {kv : κ → Value} {ok : κ → Prop} {ops : Array Oper} {Q : Exit → Act → World → Prop} (i : Nat) (T K E : TypeId) (x y z : Operand) {oi : Oper} {C : Act → World → Prop} {a : Act} {w : World} (hi : ops[i]? = some oi) (hd0 : oi.dst = none) (ho : oi.op = .mapUpdate T x y z) (hg : oi.guard = none) (hK : KeyS K kv ok) (hm : Tryz.prog.underlying T = some (.map K E))
    (m : Nat) (f : κ → Option Value) (hx : a.eval x = .map (some m)) (k : κ) (hk : ok k) (hy : a.eval y = kv k) (v : Value) (hz : a.eval z = v) (h : Mks kv ok w m f)
    (c : ∀ w', Mks kv ok w' m (updK f k v) → w.grownBy w' (some m) → C a w') : wpOp Tryz.prog ops Q i C a w := by
  obtain ⟨w', hrun, r1, r2⟩ := h.store hK hm k hk v
  have hKK : Hid _ := c w' r1 r2
  clear c
  unfold wpOp
  simp only [hi]
  rw [if_pos (by simp [Region.wanted, hg])]
  left
  unfold Oper.wp
  simp [execOp, ho, hx, hy, hz, hrun, Result.andThen]
  simp only [Oper.upon, hd0]
  exact hKK.out
/-- A literal of a struct, in a region that draws. -/
theorem ans_bdK {ops : Array Oper} {S : World → Prop} {oi : Oper} {a : Act} (ty : TypeId) (parts : List (Nat × Operand)) (vals : List (Nat × Value)) (cells : Array Value) (ho : oi.op = .build ty parts.toArray) (hw : Region.wanted oi (yielded ops a.tmps) = true) (hv : parts.map (fun p => (p.1, a.eval p.2)) = vals) (hb : Tryz.prog.built ty vals = some cells) : Ans Tryz.prog ops S oi (.agg cells) a := by
  refine ans_plain hw fun w hS => ?_
  have hr := run_build (P := Tryz.prog) w ty vals.toArray _ hb
  have e : (parts.toArray.map fun (i, x) => (i, a.eval x)) = vals.toArray := by
    rw [← hv]
    simp
  simp only [execOp, ho, e]
  simp [hr, Result.andThen]

theorem oFit (w : World) (a b : Option Addr) (n c m d : Nat) (hn : n ≤ 1000000) (hm : m ≤ 1000000) :
    Calls Tryz.prog 81 #[.slice a n c, .slice b m d] w fun e w' => e = .returned (.bool (decide (n = 32 ∧ m = 12))) ∧ w = w' := by
  by_cases h1 : n = 32
  · subst h1
    by_cases h2 : m = 12
    · subst h2
      go_enter Tryz.func81, Tryz.ntmps81
      go_wp2_with fail
      go_ret
      exact ⟨rfl, rfl⟩
    · have h3 : ((m : Int) == 12) = false := by simp; omega
      rw [show decide ((32 : Nat) = 32 ∧ m = 12) = false from by simp [h2]]
      go_enter Tryz.func81, Tryz.ntmps81
      go_wp2_with fail
      go_ret
      exact ⟨rfl, rfl⟩
  · have h3 : ((n : Int) == 32) = false := by simp; omega
    rw [show decide (n = 32 ∧ m = 12) = false from by simp [h1]]
    go_enter Tryz.func81, Tryz.ntmps81
    go_wp2_with fail
    go_ret
    exact ⟨rfl, rfl⟩
set_option maxHeartbeats 1000000 in
theorem oSNext (w : World) {U : Nat → Prop} {r : Nat} {S : SeaS} {M : SeaM} (h : Se U w r S M) (hn : S.count + S.book.length + 1 ≤ 1000000) :
    Calls Tryz.prog 110 #[.pointer (some ⟨r, 0, none⟩)] w fun e w' => e = .returned (.int .u64 ((S.count + 1 : Nat) : Int)) ∧ Se U w' r { S with count := S.count + 1 } M ∧ Kp (fun j => j = r) w w' := by
  have hc : w.cell? ⟨r, 7, none⟩ = some (.int .u64 (S.count : Int)) := h.blk.cell 7
  have hl := h.blk.lt
  have hf := h.blk.free 7
  have hb := h.bound
  obtain ⟨q, hq⟩ : ∃ q, q = S.count := ⟨_, rfl⟩
  have k : Kp (fun j => j = r) w (w.setCell ⟨r, 7, none⟩ (.int .u64 ((q + 1 : Nat) : Int))) := Kp.of_grown (but_set w r 7 _)
  have hS : Hid (Se U (w.setCell ⟨r, 7, none⟩ (.int .u64 ((q + 1 : Nat) : Int))) r { S with count := q + 1 } M) := by
    refine h.put k ?_ rfl rfl rfl (by dsimp only; omega)
    have := h.blk.setC 7 (.int .u64 ((q + 1 : Nat) : Int))
    exact this
  have HK : Hid (Kp (fun j => j = r) w (w.setCell ⟨r, 7, none⟩ (.int .u64 ((q + 1 : Nat) : Int)))) := k
  have hlt : (q : Int) + 1 = ((q + 1 : Nat) : Int) := by omega
  have hlt2 : q + 1 ≤ 1000000 := by omega
  rw [← hq] at hc ⊢
  clear h k hq hb hn
  have hy : (((q + 1 : Nat) : Int)) = (q : Int) + 1 := by omega
  rw [hy] at hS HK ⊢
  clear hlt
  go_enter Tryz.func110, Tryz.ntmps110
  go_wp2_with fail
  go_ret
  exact ⟨rfl, hS.out, HK.out⟩

end Go.Proofs.YtlenmkhmkommcaaGreat

/-
  Contracts of layer 12's program's book: one thing more in it, what stands in it. Conditions: bytes of at most a million.
-/
namespace Go.Proofs.YtlenmkhmkommcaaGreat
open Go.RowKit
set_option linter.unusedVariables false

def zct : Value := ctv [] []
theorem zeroCt (w : World) : (zeroValue 161).run Tryz.prog w = .ok zct w := by kernel_rfl
theorem builtOp (k n b s : ByteArray) : Tryz.prog.built 168 [(0, .agg #[.string k, .string n]), (1, .string b), (2, .string s)] = some #[.string k, .string n, .string b, .string s] := by kernel_rfl
theorem sizePl : (Tryz.prog.info? 159).map (·.size) = some 2 := by kernel_rfl
theorem sizeCt : (Tryz.prog.info? 161).map (·.size) = some 2 := by kernel_rfl
theorem sizeOp : (Tryz.prog.info? 168).map (·.size) = some 4 := by kernel_rfl
theorem makesCt {ops : Array Oper} {i : Nat} {d : Tmp} {tp : TypeId} {pos : String} {aft : Array Edge} (hi : ops[i]? = some { dst := some d, op := .alloc 161, type := tp, pos := pos, after := aft, guard := none }) : Makes Tryz.prog ops i d #[sv [], sv []] 161 :=
  ⟨_, hi, rfl, rfl, fun ρ w => by unfold execOp; go_simp; rfl⟩
theorem two_one (b t : List UInt8) : ∀ v ∈ [sv b, sv t], v.oneCell' = true := by
  intro v hv
  simp only [List.mem_cons, List.not_mem_nil, or_false] at hv
  rcases hv with rfl | rfl <;> rfl
theorem fst_add_none {S : SeaS} {k n : List UInt8} (h : S.first k n = none) (b t s : List UInt8) : updK (fstK S) (k, n) (ctv b t) = fstK (S.add k n b t s) := by
  funext p
  unfold updK fstK
  rw [S.first_add]
  by_cases hp : p = (k, n)
  · subst hp
    dsimp only
    rw [if_pos rfl, h]
    simp
  · rw [if_neg hp]
    cases hf : S.first p.1 p.2 with
    | some e => rfl
    | none =>
      dsimp only
      rw [if_neg]
      · rintro ⟨rfl, rfl⟩
        exact hp rfl
theorem fst_add_some {S : SeaS} {k n : List UInt8} {e : Ent} (h : S.first k n = some e) (b t s : List UInt8) : fstK (S.add k n b t s) = fstK S := by
  funext p
  unfold fstK
  rw [S.first_add]
  cases hf : S.first p.1 p.2 with
  | some e => rfl
  | none =>
    dsimp only
    rw [if_neg]
    rintro ⟨rfl, rfl⟩
    rw [h] at hf
    cases hf
theorem txt_add {S : SeaS} {g : KeyO → Option Value} (h : TxtK S g) (k n b t s : List UInt8) (ht : fitW t) (hfr : S.ideal = true → S.known k n b s = none) : TxtK (S.add k n b t s) (updK g (k, n, b, s) (ctv b t)) := by
  intro o
  rw [S.known_add]
  have ho := h o
  unfold updK
  by_cases hp : o = (k, n, b, s)
  · subst hp
    rw [if_pos rfl]
    cases hk : S.known k n b s with
    | none =>
      dsimp only
      rw [if_pos ⟨rfl, rfl, rfl, rfl⟩]
      exact ⟨t, rfl, ht, fun _ => rfl⟩
    | some t0 =>
      dsimp only
      refine ⟨t, rfl, ht, fun hi => ?_⟩
      have hi' : S.ideal = true := hi
      rw [hfr hi'] at hk
      cases hk
  · rw [if_neg hp]
    cases hk : S.known o.1 o.2.1 o.2.2.1 o.2.2.2 with
    | none =>
      dsimp only
      rw [if_neg]
      · dsimp only
        rw [hk] at ho
        exact ho
      · rintro ⟨rfl, rfl, rfl, rfl⟩
        exact hp rfl
    | some t0 =>
      rw [hk] at ho
      exact ho
theorem Se.tne {U : Nat → Prop} {w : World} {r : Nat} {S : SeaS} {M : SeaM} (h : Se U w r S M) {g : Nat} (hg : Blk w g (cs tabT) 140) : g ≠ r := fun e => by
  have h4 := h.blk
  rw [e] at hg
  unfold Blk at hg h4
  rw [h4] at hg
  simp only [Option.some.injEq, Obj.cells.injEq] at hg
  exact absurd hg.2.1 (by decide)
/-- The book's two maps and its count were written. -/
theorem Se.added {U : Nat → Prop} {w w' : World} {r : Nat} {S : SeaS} {M : SeaM} (h : Se U w r S M) {k n b t s : List UInt8} (hb : Blk w' r (seC (S.add k n b t s) M) 100) (h1 : Mks kvP okKP w' M.m1 (fstK (S.add k n b t s))) {g : KeyO → Option Value} (hT : TxtK (S.add k n b t s) g) (h2 : Mks kvO okKO w' M.m2 g)
    (kp : Kp (fun j => j = r ∨ j = M.m1 ∨ j = M.m2) w w') (hn : S.count + S.book.length + 1 ≤ 1000000) : Se U w' r (S.add k n b t s) M ∧ Kp U w w' := by
  refine ⟨⟨fun j hj => Nat.lt_of_lt_of_le (h.lt j hj) kp.size, h.inR, hb, h.in1, h.in2, h.ne12, h1, ⟨g, h2, hT⟩, fun hi => ?_, fun hi => ?_, ?_⟩, kp.mono fun j _ hj => ?_⟩
  · obtain ⟨m3, a1, a2, a3, a4, a5⟩ := h.keys hi
    refine ⟨m3, a1, a2, a3, a4, a5.same (kp.block _ a5.lt ?_)⟩
    rintro (e | e | e)
    · exact (a5.notCells h.blk).symm e
    · exact a3 e
    · exact a4 e
  · obtain ⟨q, a1, a2, a3⟩ := h.tab hi
    obtain ⟨g2, b1, _⟩ := h.texts
    refine ⟨q, a1, a2, kp.blk a3 ?_⟩
    rintro (e | e | e)
    · exact h.tne a3 e
    · exact h.first.notCells a3 e
    · exact b1.notCells a3 e
  · have : (S.add k n b t s).book.length = S.book.length + 1 := by simp [SeaS.add]
    rw [this]
    exact hn
  · rcases hj with rfl | rfl | rfl
    · exact h.inR
    · exact h.in1
    · exact h.in2
theorem sv_beq (x y : List UInt8) : (ByteArray.mk x.toArray == ByteArray.mk y.toArray) = decide (x = y) := by
  by_cases h : x = y
  · subst h
    rw [decide_eq_true rfl]
    exact (MapKept.bytes_beq _ _).2 rfl
  · rw [decide_eq_false h, Bool.eq_false_iff]
    intro e
    have := (MapKept.bytes_beq _ _).1 e
    simp only [ByteArray.mk.injEq] at this
    exact h (by simpa using this)
theorem eqStr (d : Nat) (x y : List UInt8) (w : World) : Sem.run Tryz.prog (Op.equalIn (d + 1) 9 (sv x) (sv y)) w = .ok (decide (x = y)) w := by
  rw [← sv_beq]
  simp [Op.equalIn, run_underlying Tryz.underlying9, sv]
/-- Does something else stand there? -/
def SeaS.tells (S : SeaS) (k n b t : List UInt8) : Bool := match S.first k n with | some e => !decide (e.beside = b ∧ e.text = t) | none => false
/-- Bytes outlast what is written to a block of no bytes. -/
theorem Bs.kpCells {w w' : World} {a : Option Addr} {m c : Nat} {l : List UInt8} (h : Bs w a m c l) {r : Nat} (kp : Kp (fun j => j = r) w w') {vs : List Value} {t : TypeId} (hb : Blk w r vs t) (hn : ∀ (i : Nat) v, vs[i]? = some v → ∀ x, v ≠ .int .u8 x) : Bs w' a m c l := by
  obtain ⟨h1, h2, h3, h4, h5⟩ := h
  refine ⟨h1, h2, h3, h4, fun i hi => ?_⟩
  obtain ⟨b, o, ha, hc⟩ := h5 i hi
  refine ⟨b, o, ha, ?_⟩
  have hne : b ≠ r := fun e => by
    subst e
    rw [cell_of_row w b (o + i) vs.toArray t (0, 0) hb] at hc
    exact hn (o + i) _ (by simpa using hc) _ rfl
  rw [World.cell?_of_block (w := w) (kp.block b (lt_of_cell hc) hne)]
  exact hc
theorem seC_noByte {S : SeaS} {M : SeaM} {i : Nat} {v : Value} (h : (seC S M)[i]? = some v) : ∀ x, v ≠ .int .u8 x := by
  have hm := List.mem_of_getElem? h
  simp only [seC, List.mem_cons, List.not_mem_nil, or_false] at hm
  rcases hm with rfl | rfl | rfl | rfl | rfl | rfl | rfl | rfl | rfl <;> simp
theorem Bs.kpMap {κ : Type} {kv : κ → Value} {ok : κ → Prop} {w w' : World} {a : Option Addr} {m c : Nat} {l : List UInt8} (h : Bs w a m c l) {r : Nat} (kp : Kp (fun j => j = r) w w') {f : κ → Option Value} (hm : Mks kv ok w r f) : Bs w' a m c l := by
  obtain ⟨h1, h2, h3, h4, h5⟩ := h
  refine ⟨h1, h2, h3, h4, fun i hi => ?_⟩
  obtain ⟨b, o, ha, hc⟩ := h5 i hi
  refine ⟨b, o, ha, ?_⟩
  have hne : b ≠ r := fun e => by
    subst e
    obtain ⟨es, clock, hh, _⟩ := hm
    unfold World.cell? at hc
    rw [hh] at hc
    simp at hc
  rw [World.cell?_of_block (w := w) (kp.block b (lt_of_cell hc) hne)]
  exact hc

set_option maxRecDepth 100000 in
set_option maxHeartbeats 2000000 in
theorem oAddB (w : World) {U : Nat → Prop} {r : Nat} {S : SeaS} {M : SeaM} (h : Se U w r S M) {k n b t s : List UInt8} {a : Option Addr} {m c : Nat} (ha : Bs w a m c s) (fk : fitW k) (fn : fitW n) (fb : fitW b) (ft : fitW t) (fs : fitW s) (hfr : S.ideal = true → S.known k n b s = none) (hn : S.count + S.book.length + 1 ≤ 1000000) :
    Calls Tryz.prog 83 #[.pointer (some ⟨r, 2, none⟩), kvP (k, n), ctv b t, .slice a m c] w fun e w' => e = .returned (.bool (S.tells k n b t)) ∧ Se U w' r (S.add k n b t s) M ∧ Kp U w w' := by
  have HS : Hid (Se U w r S M) := h
  have hc : w.cell? ⟨r, 2, none⟩ = some (.int .i64 (S.book.length : Int)) := h.blk.cell 2
  have hl := h.blk.lt
  have hf := h.blk.free 2
  have hb := h.bound
  have HB : Hid (Blk w r (seC S M) 100) := h.blk
  have H1 : Hid (Mks kvP okKP w M.m1 (fstK S)) := h.first
  obtain ⟨g, hg2, hgT⟩ := h.texts
  have H2 : Hid (Mks kvO okKO w M.m2 g) := hg2
  have HT : Hid (TxtK S g) := hgT
  have HA : Hid (Bs w a m c s) := ha
  have HR : Hid (r ≠ M.m1 ∧ r ≠ M.m2 ∧ M.m1 ≠ M.m2) := ⟨h.first.notCells h.blk, hg2.notCells h.blk, h.ne12⟩
  clear h hg2 hgT ha
  obtain ⟨q, hq⟩ : ∃ q, q = S.book.length := ⟨_, rfl⟩
  rw [← hq] at hc
  have hq1 : q ≤ 1000000 := by omega
  have HQ : Hid (q = S.book.length) := hq
  clear hq hb
  have OKP : Hid (okKP (k, n)) := ⟨fk, fn⟩
  have OKO : Hid (okKO (k, n, b, s)) := ⟨fk, fn, fb, fs⟩
  unfold kvP ctv
  go_enter Tryz.func83, Tryz.ntmps83
  go_wp2_with fail
  obtain ⟨x5, h5⟩ : ∃ x, x = w.heap.size := ⟨_, rfl⟩
  obtain ⟨x6, h6⟩ : ∃ x, x = w.heap.size + 1 := ⟨_, rfl⟩
  have B5 : Hid (Blk (((w.setCell ⟨r, 2, none⟩ (.int .i64 ((q : Int) + 1))).alloc (.cells #[sv k, sv n] 159)).alloc (.cells #[sv b, sv t] 161)) x5 [sv k, sv n] 159) := by
    have := (Blk.new (w.setCell ⟨r, 2, none⟩ (.int .i64 ((q : Int) + 1))) #[sv k, sv n] 159).old (.cells #[sv b, sv t] 161)
    rw [show (w.setCell ⟨r, 2, none⟩ (.int .i64 ((q : Int) + 1))).heap.size = x5 from by rw [h5]; simp [World.setCell]] at this
    exact this
  have B6 : Hid (Blk (((w.setCell ⟨r, 2, none⟩ (.int .i64 ((q : Int) + 1))).alloc (.cells #[sv k, sv n] 159)).alloc (.cells #[sv b, sv t] 161)) x6 [sv b, sv t] 161) := by
    have := Blk.new ((w.setCell ⟨r, 2, none⟩ (.int .i64 ((q : Int) + 1))).alloc (.cells #[sv k, sv n] 159)) #[sv b, sv t] 161
    rw [show ((w.setCell ⟨r, 2, none⟩ (.int .i64 ((q : Int) + 1))).alloc (.cells #[sv k, sv n] 159)).heap.size = x6 from by rw [h6]; simp [World.setCell]] at this
    exact this
  have KP : Hid (Kp (fun j => j = r) w (((w.setCell ⟨r, 2, none⟩ (.int .i64 ((q : Int) + 1))).alloc (.cells #[sv k, sv n] 159)).alloc (.cells #[sv b, sv t] 161))) := (Kp.alloc (Kp.of_grown (but_set w r 2 _)) _).alloc _
  have BR : Hid (Blk (((w.setCell ⟨r, 2, none⟩ (.int .i64 ((q : Int) + 1))).alloc (.cells #[sv k, sv n] 159)).alloc (.cells #[sv b, sv t] 161)) r (seC (S.add k n b t s) M) 100) := by
    have := ((HB.out.setC 2 (.int .i64 ((q : Int) + 1))).old (.cells #[sv k, sv n] 159)).old (.cells #[sv b, sv t] 161)
    have e : (seC S M).set 2 (.int .i64 ((q : Int) + 1)) = seC (S.add k n b t s) M := by
      have : ((S.add k n b t s).book.length : Int) = (q : Int) + 1 := by simp [SeaS.add, HQ.out]
      unfold seC
      rw [this]
      rfl
    rw [e] at this
    exact this
  rw [← h6, ← h5]
  have hx5 : x5 < x6 ∧ w.heap.size ≤ x5 := by omega
  clear h5 h6 hc hf
  generalize ((w.setCell ⟨r, 2, none⟩ (.int .i64 ((q : Int) + 1))).alloc (.cells #[sv k, sv n] 159)).alloc (.cells #[sv b, sv t] 161) = w3 at *
  have M1 : Hid (Mks kvP okKP w3 M.m1 (fstK S)) := H1.out.same (KP.out.block _ H1.out.lt fun e => HR.out.1 e.symm)
  have M2 : Hid (Mks kvO okKO w3 M.m2 g) := H2.out.same (KP.out.block _ H2.out.lt fun e => HR.out.2.1 e.symm)
  have A3 : Hid (Bs w3 a m c s) := Bs.kpCells HA.out KP.out HB.out (fun i v hv => seC_noByte hv)
  obtain ⟨b0, t0, hX⟩ : ∃ b0 t0, ((fstK S) (k, n)).getD zct = .agg #[sv b0, sv t0] := by
    unfold fstK
    cases S.first k n with
    | none => exact ⟨[], [], rfl⟩
    | some e => exact ⟨e.beside, e.text, rfl⟩
  obtain ⟨tk, hTk⟩ : ∃ tk, ((fstK S) (k, n)).isSome = tk := ⟨_, rfl⟩
  have HX : Hid (((fstK S) (k, n)).getD zct = .agg #[sv b0, sv t0] ∧ ((fstK S) (k, n)).isSome = tk) := ⟨hX, hTk⟩
  refine regionG (S := Grows w3) (by kernel_rfl) (Below.refl _ w3).drew ?_
  have F3 : ∀ u, Grows w3 u → u.cell? ⟨r, 3, none⟩ = some (.map (some M.m1)) := fun u hu => (BR.out.grows hu).cell 3
  refine takeG 0 (some 19) (.pointer (some ⟨r, 2, none⟩)) rfl rfl (by kernel_rfl) (by kernel_rfl) (by kernel_rfl) (fun _ _ _ h => h) (ans_plain (by rfl) (fun w _ => rfl)) ?_
  simp only [Act.put, List.setIfInBounds_toArray, List.set_cons_zero, List.set_cons_succ]
  refine takeG 1 (some 20) (.pointer (some ⟨r, 2, none⟩)) rfl rfl (by kernel_rfl) (by kernel_rfl) (by kernel_rfl) (fun _ _ _ h => h) (ans_plain (by rfl) (fun w _ => by unfold execOp; go_simp)) ?_
  simp only [Act.put, List.setIfInBounds_toArray, List.set_cons_zero, List.set_cons_succ]
  refine takeG 2 (some 21) (.pointer (some ⟨r, 3, none⟩)) rfl rfl (by kernel_rfl) (by kernel_rfl) (by kernel_rfl) (fun _ _ _ h => h) (ans_plain (by rfl) (fun w _ => by unfold execOp; go_simp)) ?_
  simp only [Act.put, List.setIfInBounds_toArray, List.set_cons_zero, List.set_cons_succ]
  refine takeG 3 (some 22) (.map (some M.m1)) rfl rfl (by kernel_rfl) (by kernel_rfl) (by kernel_rfl) (fun _ _ _ h => h) (ans_plain (by rfl) (fun w h => by have hc := F3 w h; unfold execOp; go_simp)) ?_
  simp only [Act.put, List.setIfInBounds_toArray, List.set_cons_zero, List.set_cons_succ]
  refine takeG 4 (some 23) (.agg #[sv k, sv n]) rfl rfl (by kernel_rfl) (by kernel_rfl) (by kernel_rfl) (fun _ _ _ h => h) (ans_row 159 (.tmp 5) _ 2 rfl (by rfl) x5 0 rfl [sv k, sv n] (fun u hu => (B5.out.grows hu).whole) Tryz.underlying159 rfl rfl sizePl) ?_
  simp only [Act.put, List.setIfInBounds_toArray, List.set_cons_zero, List.set_cons_succ]
  refine takeG 5 (some 24) (.tuple #[((fstK S) (k, n)).getD zct, .bool ((fstK S) (k, n)).isSome]) rfl rfl (by kernel_rfl) (by kernel_rfl) (by kernel_rfl) (fun _ _ _ h => h) (ans_lookK (.tmp 22) (.tmp 23) 92 159 161 rfl (by rfl) keysP Tryz.underlying92 zct zeroCt M.m1 (fstK S) rfl (k, n) OKP.out rfl (fun u hu => M1.out.same (Below.block hu _ M1.out.lt))) ?_
  simp only [Act.put, List.setIfInBounds_toArray, List.set_cons_zero, List.set_cons_succ]
  rw [hX, hTk]
  clear hX hTk F3
  refine takeG 6 (some 18) (.tuple #[.agg #[sv b0, sv t0], .bool tk]) rfl rfl (by kernel_rfl) (by kernel_rfl) (by kernel_rfl) (fun _ _ _ h => h) (ans_plain (by rfl) (fun w _ => rfl)) ?_
  simp only [Act.put, List.setIfInBounds_toArray, List.set_cons_zero, List.set_cons_succ]
  refine takeG 7 (some 25) (.agg #[sv b0, sv t0]) rfl rfl (by kernel_rfl) (by kernel_rfl) (by kernel_rfl) (fun _ _ _ h => h) (ans_plain (by rfl) (fun w _ => by unfold execOp; go_simp)) ?_
  simp only [Act.put, List.setIfInBounds_toArray, List.set_cons_zero, List.set_cons_succ]
  refine takeG 8 (some 26) (.bool tk) rfl rfl (by kernel_rfl) (by kernel_rfl) (by kernel_rfl) (fun _ _ _ h => h) (ans_plain (by rfl) (fun w _ => by unfold execOp; go_simp)) ?_
  simp only [Act.put, List.setIfInBounds_toArray, List.set_cons_zero, List.set_cons_succ]
  refine alloc1 (fun _ _ h h' => Grows.trans h h') 9 9 (makesCt rfl) (by kernel_rfl) fun x9 w4 hg4 hs4 B9 hx9 => ?_
  simp only [Act.put, List.setIfInBounds_toArray, List.set_cons_zero, List.set_cons_succ]
  refine oneG 10 (by kernel_rfl) fun w5 hg5 hs5 => ?_
  refine opStR 10 161 (.tmp 9) (.tmp 25) 2 rfl rfl rfl rfl x9 _ [sv b0, sv t0] 161 (B9.grows hg5) rfl rfl (two_one _ _) sizeCt rfl rfl fun w6 B9' k6 => ?_
  have hx93 : w3.heap.size ≤ x9 := hx9
  have hs6 : Grows w3 w6 := Below.trans hs5 (k6.below (B := w3.heap.size) (Below.size hs5) (fun j hj e => by omega))
  refine ⟨hs6, ?_⟩
  refine takeG 11 (some 10) (.bool tk) rfl rfl (by kernel_rfl) (by kernel_rfl) (by kernel_rfl) (fun _ _ _ h => h) (ans_plain (by rfl) (fun w _ => rfl)) ?_
  simp only [Act.put, List.setIfInBounds_toArray, List.set_cons_zero, List.set_cons_succ]
  refine doneG (by kernel_rfl) fun w7 hg7 hs7 => ?_
  have B97 : Hid (Blk w7 x9 [sv b0, sv t0] 161) := B9'.grows hg7
  have B57 : Hid (Blk w7 x5 [sv k, sv n] 159) := B5.out.grows hs7
  have B67 : Hid (Blk w7 x6 [sv b, sv t] 161) := B6.out.grows hs7
  have BR7 : Hid (Blk w7 r (seC (S.add k n b t s) M) 100) := BR.out.grows hs7
  have M17 : Hid (Mks kvP okKP w7 M.m1 (fstK S)) := M1.out.same (Below.block hs7 _ M1.out.lt)
  have M27 : Hid (Mks kvO okKO w7 M.m2 g) := M2.out.same (Below.block hs7 _ M2.out.lt)
  have A7 : Hid (Bs w7 a m c s) := A3.out.below hs7 (Nat.le_refl _)
  have K7 : Hid (Kp (fun j => j = r) w w7) := KP.out.trans (Kp.of_below hs7)
  have HXX : Hid (x9 ≠ x6) := by
    show x9 ≠ x6
    have := B6.out.lt
    omega
  clear B9' B9 hg4 hs4 hg5 hs5 k6 hs6 hg7 hs7 M1 M2 A3 BR B5 B6 KP H1 H2 HB hx9 hx93 hx5 hl
  cases hfirst : S.first k n with
  | none =>
    have htk : tk = false := by rw [← HX.out.2]; unfold fstK; rw [hfirst]; rfl
    subst htk
    have HF : Hid (S.first k n = none) := hfirst
    have HTL : Hid (S.tells k n b t = false) := by show _ = _; unfold SeaS.tells; rw [hfirst]
    clear hfirst
    go_wp2_with fail
    have F3 : ∀ u, Grows w7 u → u.cell? ⟨r, 3, none⟩ = some (.map (some M.m1)) := fun u hu => (BR7.out.grows hu).cell 3
    refine regionE 6 (S := Grows w7) (by kernel_rfl) (Below.refl _ w7).drew ?_
    refine takeT 0 (some 29) (.pointer (some ⟨r, 2, none⟩)) rfl rfl (by kernel_rfl) (fun _ _ _ h => h) (ans_plain (by rfl) (fun w _ => rfl)) ?_
    simp only [Act.put, List.setIfInBounds_toArray, List.set_cons_zero, List.set_cons_succ]
    refine takeT 1 (some 30) (.pointer (some ⟨r, 2, none⟩)) rfl rfl (by kernel_rfl) (fun _ _ _ h => h) (ans_plain (by rfl) (fun w _ => by unfold execOp; go_simp)) ?_
    simp only [Act.put, List.setIfInBounds_toArray, List.set_cons_zero, List.set_cons_succ]
    refine takeT 2 (some 31) (.pointer (some ⟨r, 3, none⟩)) rfl rfl (by kernel_rfl) (fun _ _ _ h => h) (ans_plain (by rfl) (fun w _ => by unfold execOp; go_simp)) ?_
    simp only [Act.put, List.setIfInBounds_toArray, List.set_cons_zero, List.set_cons_succ]
    refine takeT 3 (some 32) (.map (some M.m1)) rfl rfl (by kernel_rfl) (fun _ _ _ h => h) (ans_plain (by rfl) (fun w h => by have hc := F3 w h; unfold execOp; go_simp)) ?_
    simp only [Act.put, List.setIfInBounds_toArray, List.set_cons_zero, List.set_cons_succ]
    refine takeT 4 (some 33) (.agg #[sv k, sv n]) rfl rfl (by kernel_rfl) (fun _ _ _ h => h) (ans_row 159 (.tmp 5) _ 2 rfl (by rfl) x5 0 rfl [sv k, sv n] (fun u hu => (B57.out.grows hu).whole) Tryz.underlying159 rfl rfl sizePl) ?_
    simp only [Act.put, List.setIfInBounds_toArray, List.set_cons_zero, List.set_cons_succ]
    refine takeT 5 (some 34) (.agg #[sv b, sv t]) rfl rfl (by kernel_rfl) (fun _ _ _ h => h) (ans_row 161 (.tmp 6) _ 2 rfl (by rfl) x6 0 rfl [sv b, sv t] (fun u hu => (B67.out.grows hu).whole) Tryz.underlying161 rfl rfl sizeCt) ?_
    simp only [Act.put, List.setIfInBounds_toArray, List.set_cons_zero, List.set_cons_succ]
    refine lastE (by kernel_rfl) (by kernel_rfl) (by kernel_rfl) (by kernel_rfl) fun w8 hg8 hs8 => ?_
    refine opMsetK 6 92 159 161 (.tmp 32) (.tmp 33) (.tmp 34) rfl rfl rfl rfl keysP Tryz.underlying92 M.m1 (fstK S) rfl (k, n) OKP.out rfl (ctv b t) rfl (M17.out.same (Below.block hs8 _ M17.out.lt)) fun w9 k19 hgr9 => ?_
    intro wA hgA
    have kA : Kp (fun j => j = M.m1) w7 wA := ((Kp.of_below hs8).trans (Kp.of_grown hgr9)).trans (Kp.of_below hgA)
    have M1A : Hid (Mks kvP okKP wA M.m1 (fstK (S.add k n b t s))) := by
      rw [fst_add_none HF.out b t s] at k19
      exact k19.same (Below.block hgA _ k19.lt)
    have M2A : Hid (Mks kvO okKO wA M.m2 g) := M27.out.same (kA.block _ M27.out.lt fun e => HR.out.2.2 e.symm)
    have B5A : Hid (Blk wA x5 [sv k, sv n] 159) := kA.blk B57.out (M17.out.notCells B57.out)
    have B6A : Hid (Blk wA x6 [sv b, sv t] 161) := kA.blk B67.out (M17.out.notCells B67.out)
    have BRA : Hid (Blk wA r (seC (S.add k n b t s) M) 100) := kA.blk BR7.out (M17.out.notCells BR7.out)
    have AA : Hid (Bs wA a m c s) := Bs.kpMap A7.out kA M17.out
    have KA : Hid (Kp (fun j => j = r ∨ j = M.m1 ∨ j = M.m2) w wA) := (K7.out.mono fun j _ e => Or.inl e).trans (kA.mono fun j _ e => Or.inr (Or.inl e))
    clear kA k19 hgr9 hgA hg8 hs8 F3 M17 M27 B57 B67 BR7 A7 K7
    go_wp2_with fail
    have F4 : ∀ u, Grows wA u → u.cell? ⟨r, 4, none⟩ = some (.map (some M.m2)) := fun u hu => (BRA.out.grows hu).cell 4
    have F6 : ∀ u, Grows wA u → u.cell? ⟨x6, 0, none⟩ = some (sv b) := fun u hu => (B6A.out.grows hu).cell 0
    refine regionE 11 (S := Grows wA) (by kernel_rfl) (Below.refl _ wA).drew ?_
    refine takeT 0 (some 35) (.pointer (some ⟨r, 2, none⟩)) rfl rfl (by kernel_rfl) (fun _ _ _ h => h) (ans_plain (by rfl) (fun w _ => rfl)) ?_
    simp only [Act.put, List.setIfInBounds_toArray, List.set_cons_zero, List.set_cons_succ]
    refine takeT 1 (some 36) (.pointer (some ⟨r, 2, none⟩)) rfl rfl (by kernel_rfl) (fun _ _ _ h => h) (ans_plain (by rfl) (fun w _ => by unfold execOp; go_simp)) ?_
    simp only [Act.put, List.setIfInBounds_toArray, List.set_cons_zero, List.set_cons_succ]
    refine takeT 2 (some 37) (.pointer (some ⟨r, 4, none⟩)) rfl rfl (by kernel_rfl) (fun _ _ _ h => h) (ans_plain (by rfl) (fun w _ => by unfold execOp; go_simp)) ?_
    simp only [Act.put, List.setIfInBounds_toArray, List.set_cons_zero, List.set_cons_succ]
    refine takeT 3 (some 38) (.map (some M.m2)) rfl rfl (by kernel_rfl) (fun _ _ _ h => h) (ans_plain (by rfl) (fun w h => by have hc := F4 w h; unfold execOp; go_simp)) ?_
    simp only [Act.put, List.setIfInBounds_toArray, List.set_cons_zero, List.set_cons_succ]
    refine takeT 4 (some 39) (.agg #[sv k, sv n]) rfl rfl (by kernel_rfl) (fun _ _ _ h => h) (ans_row 159 (.tmp 5) _ 2 rfl (by rfl) x5 0 rfl [sv k, sv n] (fun u hu => (B5A.out.grows hu).whole) Tryz.underlying159 rfl rfl sizePl) ?_
    simp only [Act.put, List.setIfInBounds_toArray, List.set_cons_zero, List.set_cons_succ]
    refine takeT 5 (some 40) (.pointer (some ⟨x6, 0, none⟩)) rfl rfl (by kernel_rfl) (fun _ _ _ h => h) (ans_plain (by rfl) (fun w _ => by unfold execOp; go_simp)) ?_
    simp only [Act.put, List.setIfInBounds_toArray, List.set_cons_zero, List.set_cons_succ]
    refine takeT 6 (some 41) (sv b) rfl rfl (by kernel_rfl) (fun _ _ _ h => h) (ans_plain (by rfl) (fun w h => by have hc := F6 w h; unfold execOp; go_simp)) ?_
    simp only [Act.put, List.setIfInBounds_toArray, List.set_cons_zero, List.set_cons_succ]
    refine takeT 7 (some 42) (.slice a m c) rfl rfl (by kernel_rfl) (fun _ _ _ h => h) (ans_plain (by rfl) (fun w _ => rfl)) ?_
    simp only [Act.put, List.setIfInBounds_toArray, List.set_cons_zero, List.set_cons_succ]
    refine takeT 8 (some 43) (sv s) rfl rfl (by kernel_rfl) (fun _ _ _ h => h) (ans_str (.tmp 42) rfl (by rfl) a m c s rfl (fun u hu => AA.out.below hu (Nat.le_refl _))) ?_
    simp only [Act.put, List.setIfInBounds_toArray, List.set_cons_zero, List.set_cons_succ]
    refine takeT 9 (some 44) (.agg #[sv k, sv n, sv b, sv s]) rfl rfl (by kernel_rfl) (fun _ _ _ h => h) (ans_bdK 168 [(0, .tmp 39), (1, .tmp 41), (2, .tmp 43)] [(0, .agg #[sv k, sv n]), (1, sv b), (2, sv s)] _ rfl (by rfl) rfl (builtOp _ _ _ _)) ?_
    simp only [Act.put, List.setIfInBounds_toArray, List.set_cons_zero, List.set_cons_succ]
    refine takeT 10 (some 45) (.agg #[sv b, sv t]) rfl rfl (by kernel_rfl) (fun _ _ _ h => h) (ans_row 161 (.tmp 6) _ 2 rfl (by rfl) x6 0 rfl [sv b, sv t] (fun u hu => (B6A.out.grows hu).whole) Tryz.underlying161 rfl rfl sizeCt) ?_
    simp only [Act.put, List.setIfInBounds_toArray, List.set_cons_zero, List.set_cons_succ]
    refine lastE (by kernel_rfl) (by kernel_rfl) (by kernel_rfl) (by kernel_rfl) fun u8 hu8 hv8 => ?_
    refine opMsetK 11 93 168 161 (.tmp 38) (.tmp 44) (.tmp 45) rfl rfl rfl rfl keysO Tryz.underlying93 M.m2 g rfl (k, n, b, s) OKO.out rfl (ctv b t) rfl (M2A.out.same (Below.block hv8 _ M2A.out.lt)) fun u9 k29 hgu9 => ?_
    intro uA hgA2
    have kB : Kp (fun j => j = M.m2) wA uA := ((Kp.of_below hv8).trans (Kp.of_grown hgu9)).trans (Kp.of_below hgA2)
    have FIN := HS.out.added (kB.blk BRA.out (M2A.out.notCells BRA.out)) (M1A.out.same (kB.block _ M1A.out.lt HR.out.2.2)) (txt_add HT.out k n b t s ft hfr) (k29.same (Below.block hgA2 _ k29.lt)) (KA.out.trans (kB.mono fun j _ e => Or.inr (Or.inr e))) hn
    clear kB k29 hgu9 hgA2 hu8 hv8 F4 F6 M1A M2A B5A B6A BRA AA KA B97
    go_wp2_with fail
    go_ret
    exact ⟨by rw [HTL.out]; rfl, FIN⟩
  | some e0 =>
    have htk : tk = true := by rw [← HX.out.2]; unfold fstK; rw [hfirst]; rfl
    subst htk
    have HF : Hid (S.first k n = some e0) := hfirst
    have h0 : e0.beside = b0 ∧ e0.text = t0 := by
      have := HX.out.1
      unfold fstK at this
      rw [hfirst] at this
      simp only [Option.map_some, Option.getD_some, ctv, Value.agg.injEq, Array.mk.injEq, List.cons.injEq, and_true] at this
      exact ⟨sv_inj this.1, sv_inj this.2⟩
    have HTL : Hid (S.tells k n b t = !decide (b0 = b ∧ t0 = t)) := by show _ = _; unfold SeaS.tells; rw [hfirst, ← h0.1, ← h0.2]
    clear hfirst h0
    go_wp2_with fail
    have F4 : ∀ u, Grows w7 u → u.cell? ⟨r, 4, none⟩ = some (.map (some M.m2)) := fun u hu => (BR7.out.grows hu).cell 4
    have F6 : ∀ u, Grows w7 u → u.cell? ⟨x6, 0, none⟩ = some (sv b) := fun u hu => (B67.out.grows hu).cell 0
    refine regionE 11 (S := Grows w7) (by kernel_rfl) (Below.refl _ w7).drew ?_
    refine takeT 0 (some 35) (.pointer (some ⟨r, 2, none⟩)) rfl rfl (by kernel_rfl) (fun _ _ _ h => h) (ans_plain (by rfl) (fun w _ => rfl)) ?_
    simp only [Act.put, List.setIfInBounds_toArray, List.set_cons_zero, List.set_cons_succ]
    refine takeT 1 (some 36) (.pointer (some ⟨r, 2, none⟩)) rfl rfl (by kernel_rfl) (fun _ _ _ h => h) (ans_plain (by rfl) (fun w _ => by unfold execOp; go_simp)) ?_
    simp only [Act.put, List.setIfInBounds_toArray, List.set_cons_zero, List.set_cons_succ]
    refine takeT 2 (some 37) (.pointer (some ⟨r, 4, none⟩)) rfl rfl (by kernel_rfl) (fun _ _ _ h => h) (ans_plain (by rfl) (fun w _ => by unfold execOp; go_simp)) ?_
    simp only [Act.put, List.setIfInBounds_toArray, List.set_cons_zero, List.set_cons_succ]
    refine takeT 3 (some 38) (.map (some M.m2)) rfl rfl (by kernel_rfl) (fun _ _ _ h => h) (ans_plain (by rfl) (fun w h => by have hc := F4 w h; unfold execOp; go_simp)) ?_
    simp only [Act.put, List.setIfInBounds_toArray, List.set_cons_zero, List.set_cons_succ]
    refine takeT 4 (some 39) (.agg #[sv k, sv n]) rfl rfl (by kernel_rfl) (fun _ _ _ h => h) (ans_row 159 (.tmp 5) _ 2 rfl (by rfl) x5 0 rfl [sv k, sv n] (fun u hu => (B57.out.grows hu).whole) Tryz.underlying159 rfl rfl sizePl) ?_
    simp only [Act.put, List.setIfInBounds_toArray, List.set_cons_zero, List.set_cons_succ]
    refine takeT 5 (some 40) (.pointer (some ⟨x6, 0, none⟩)) rfl rfl (by kernel_rfl) (fun _ _ _ h => h) (ans_plain (by rfl) (fun w _ => by unfold execOp; go_simp)) ?_
    simp only [Act.put, List.setIfInBounds_toArray, List.set_cons_zero, List.set_cons_succ]
    refine takeT 6 (some 41) (sv b) rfl rfl (by kernel_rfl) (fun _ _ _ h => h) (ans_plain (by rfl) (fun w h => by have hc := F6 w h; unfold execOp; go_simp)) ?_
    simp only [Act.put, List.setIfInBounds_toArray, List.set_cons_zero, List.set_cons_succ]
    refine takeT 7 (some 42) (.slice a m c) rfl rfl (by kernel_rfl) (fun _ _ _ h => h) (ans_plain (by rfl) (fun w _ => rfl)) ?_
    simp only [Act.put, List.setIfInBounds_toArray, List.set_cons_zero, List.set_cons_succ]
    refine takeT 8 (some 43) (sv s) rfl rfl (by kernel_rfl) (fun _ _ _ h => h) (ans_str (.tmp 42) rfl (by rfl) a m c s rfl (fun u hu => A7.out.below hu (Nat.le_refl _))) ?_
    simp only [Act.put, List.setIfInBounds_toArray, List.set_cons_zero, List.set_cons_succ]
    refine takeT 9 (some 44) (.agg #[sv k, sv n, sv b, sv s]) rfl rfl (by kernel_rfl) (fun _ _ _ h => h) (ans_bdK 168 [(0, .tmp 39), (1, .tmp 41), (2, .tmp 43)] [(0, .agg #[sv k, sv n]), (1, sv b), (2, sv s)] _ rfl (by rfl) rfl (builtOp _ _ _ _)) ?_
    simp only [Act.put, List.setIfInBounds_toArray, List.set_cons_zero, List.set_cons_succ]
    refine takeT 10 (some 45) (.agg #[sv b, sv t]) rfl rfl (by kernel_rfl) (fun _ _ _ h => h) (ans_row 161 (.tmp 6) _ 2 rfl (by rfl) x6 0 rfl [sv b, sv t] (fun u hu => (B67.out.grows hu).whole) Tryz.underlying161 rfl rfl sizeCt) ?_
    simp only [Act.put, List.setIfInBounds_toArray, List.set_cons_zero, List.set_cons_succ]
    refine lastE (by kernel_rfl) (by kernel_rfl) (by kernel_rfl) (by kernel_rfl) fun u8 hu8 hv8 => ?_
    refine opMsetK 11 93 168 161 (.tmp 38) (.tmp 44) (.tmp 45) rfl rfl rfl rfl keysO Tryz.underlying93 M.m2 g rfl (k, n, b, s) OKO.out rfl (ctv b t) rfl (M27.out.same (Below.block hv8 _ M27.out.lt)) fun u9 k29 hgu9 => ?_
    intro uA hgA2
    have kB : Kp (fun j => j = M.m2) w7 uA := ((Kp.of_below hv8).trans (Kp.of_grown hgu9)).trans (Kp.of_below hgA2)
    have M1A : Mks kvP okKP w7 M.m1 (fstK (S.add k n b t s)) := by
      rw [fst_add_some HF.out b t s]
      exact M17.out
    have FIN : Hid (Se U uA r (S.add k n b t s) M ∧ Kp U w uA) := HS.out.added (kB.blk BR7.out (M27.out.notCells BR7.out)) (M1A.same (kB.block _ M1A.lt HR.out.2.2)) (txt_add HT.out k n b t s ft hfr) (k29.same (Below.block hgA2 _ k29.lt)) (((K7.out.mono fun j _ e => Or.inl e).trans (kB.mono fun j _ e => Or.inr (Or.inr e)))) hn
    have B9A := kB.blk B97.out (M27.out.notCells B97.out)
    have B6A := kB.blk B67.out (M27.out.notCells B67.out)
    have c90 : uA.cell? ⟨x9, 0, none⟩ = some (sv b0) := B9A.cell 0
    have c91 : uA.cell? ⟨x9, 1, none⟩ = some (sv t0) := B9A.cell 1
    have c60 : uA.cell? ⟨x6, 0, none⟩ = some (sv b) := B6A.cell 0
    have c61 : uA.cell? ⟨x6, 1, none⟩ = some (sv t) := B6A.cell 1
    have l9 := B9A.lt
    have l6 := B6A.lt
    obtain ⟨D1, hD1⟩ : ∃ D, D = decide (b0 = b) := ⟨_, rfl⟩
    obtain ⟨D2, hD2⟩ : ∃ D, D = decide (t0 = t) := ⟨_, rfl⟩
    have E1 : ∀ w, Sem.run Tryz.prog (Op.equalIn 9999 9 (sv b0) (sv b)) w = .ok D1 w := fun w => by rw [hD1]; exact eqStr 9998 b0 b w
    have E2 : ∀ w, Sem.run Tryz.prog (Op.equalIn 9999 9 (sv t0) (sv t)) w = .ok D2 w := fun w => by rw [hD2]; exact eqStr 9998 t0 t w
    have HTL' : Hid (S.tells k n b t = !(D1 && D2)) := by
      show _ = _
      rw [HTL.out, hD1, hD2]
      by_cases x1 : b0 = b <;> by_cases x2 : t0 = t <;> simp [x1, x2]
    clear HTL hD1 hD2
    clear kB k29 hgu9 hgA2 hu8 hv8 F4 F6 M1A M17 M27 B57 B67 BR7 A7 K7 B97 B9A B6A
    cases D1 <;> cases D2 <;> (go_wp2_with fail; go_ret; exact ⟨by rw [HTL'.out]; rfl, FIN.out⟩)

end Go.Proofs.YtlenmkhmkommcaaGreat

/-
  The builtin copy of bytes into the middle of a block that is known whole; the contract of layer 11's program's Noise: bytes of a number, in memory of the call's own. Conditions: the number fits 64 bits; at most 3000 bytes.
-/
namespace Go.Proofs.YtlenmkhmkommcaaGreat
open Go.RowKit

/-- A row of the call's own that has no room left is a block. -/
theorem Own.blkF {w : World} {base g m : Nat} {l : List UInt8} (h : Own w base (.slice (some ⟨g, 0, none⟩) m m) l) (hl : l.length = m) : Blk w g (cs l) 5 := by
  obtain ⟨h1, h2⟩ := h
  rcases h2 with ⟨h2, _⟩ | ⟨g', cap, cur, hv, hg, hh, hn, hm, hc, ht⟩
  · simp at h2
  · simp only [Value.slice.injEq, Option.some.injEq, Addr.mk.injEq] at hv
    obtain ⟨⟨rfl, _, _⟩, e1, rfl⟩ := hv
    unfold Blk
    rw [hh]
    have e : cur = (cs l).toArray := by
      rw [← ht, List.take_of_length_le (by rw [Array.length_toList]; omega)]
    rw [e]
theorem Own.ofBlk {w : World} {base g m : Nat} {l : List UInt8} (h : Blk w g (cs l) 5) (hb : base ≤ g) (hl : l.length = m) (hm : m ≤ 1000000) : Own w base (.slice (some ⟨g, 0, none⟩) m m) l := by
  subst hl
  refine ⟨by rw [cs_length, Nat.mul_one], Or.inr ⟨g, l.length, (cs l).toArray, rfl, hb, h, Nat.le_refl _, by unfold maxLen; omega, by simp [cs_length], ?_⟩⟩
  rw [List.take_of_length_le (by simp [cs_length])]

/-- 'copy(x[i:], b)' into a block that is known whole: as many as there are in both, and how many. -/
theorem wpList_cpo {ops : Array Oper} {rest : List Oper} {o : Oper} {a : Act} {Q : Exit → Act → World → Prop} (w : World) (hgd : o.guard = none) (d s : Operand)
    (ho : o.op = .call { callee := .builtin .copy, args := #[d, s], argTypes := #[26, 26] }) (g off dl dc : Nat) (hd : a.eval d = .slice (some ⟨g, off, none⟩) dl dc)
    (sp : Option Addr) (m c : Nat) (hs : a.eval s = .slice sp m c) (l : List UInt8) (hb : Bs w sp m c l) (vs : List Value) (t : TypeId) (blk : Blk w g vs t) (hfit : off + dl ≤ vs.length) (k : Nat) (hk : k = min m dl)
    (h : ∀ w', Blk w' g (vs.take off ++ cs (l.take k) ++ vs.drop (off + k)) t → w.grownBy w' (some g) → wpList Tryz.prog ops Q rest (a.put o.dst (.int .i64 (k : Int))) w') : wpList Tryz.prog ops Q (o :: rest) a w := by
  have hl := hb.len
  obtain ⟨i0, hi, hz0, hz1, hz2⟩ := info_parts info5
  have hsz : (Tryz.prog.info? 5).map (·.size) = some 1 := by rw [hi]; simp [hz1]
  by_cases h0 : k = 0
  · subst h0
    refine wpList_copy_nothing hgd d s 26 26 ho 5 Tryz.underlying26 hsz _ sp dl dc m c hd hs hk.symm ?_
    exact h w (by simpa [cs] using blk) (World.grownBy.refl _ _)
  · obtain ⟨b, o', rfl, _, _⟩ := hb.at (by omega)
    have hcl : (cs (l.take k)).length = k := by rw [cs_length, List.length_take, hl]; omega
    refine wpList_copy_own hgd d s 26 26 ho 5 Tryz.underlying26 hsz g off dl dc ⟨b, o', none⟩ m c hd hs vs.toArray t blk (cs (l.take k)) (by rw [hcl]; exact hk) (fun j v hj => hb.news j v (cs_sub' hj)) (by rw [hcl]; simp; omega) cs_one ?_
    rw [hcl]
    refine h _ ?_ ⟨rfl, rfl, rfl, by simp [World.setRow], fun j _ hj => setRow_other w g j _ (by simpa using hj)⟩
    unfold Blk
    rw [setRow_heap w g _ _ t (0, 0) blk, List.append_assoc]

theorem noiseL_small (n : Nat) {j : Nat} (h : j ≤ 8) : noiseL n j = (putL n 8).take j := by
  unfold noiseL
  rw [List.take_append_of_le_length (by rw [putL_length]; exact h)]
theorem noiseL_step (n : Nat) {j : Nat} (h : 8 ≤ j) : noiseL n (j + 1) = noiseL n j ++ [lcgB n (j - 8)] := by
  unfold noiseL
  rw [show j + 1 - 8 = (j - 8) + 1 from by omega, lcgL_succ, ← List.append_assoc]
  rw [List.take_of_length_le (by simp [putL_length, lcgL_length]; omega), List.take_of_length_le (by simp [putL_length, lcgL_length]; omega)]
theorem noise_set (n : Nat) {j m : Nat} (h : 8 ≤ j) (hm : j < m) : (noiseL n j ++ List.replicate (m - j) 0).set j (lcgB n (j - 8)) = noiseL n (j + 1) ++ List.replicate (m - (j + 1)) 0 := by
  rw [noiseL_step n h, List.set_append_right _ _ (by rw [noiseL_length]; exact Nat.le_refl _), noiseL_length, Nat.sub_self, show m - j = (m - (j + 1)) + 1 from by omega, List.replicate_succ, List.set_cons_zero, List.append_assoc]
  rfl
theorem noise_start (n m : Nat) : (cs (List.replicate m 0)).take 0 ++ cs ((putL n 8).take (min 8 m)) ++ (cs (List.replicate m 0)).drop (0 + min 8 m) = cs (noiseL n (min 8 m) ++ List.replicate (m - min 8 m) 0) := by
  rw [noiseL_small n (Nat.min_le_left _ _), cs_append, List.take_zero, List.nil_append, Nat.zero_add]
  congr 1
  simp [cs, List.drop_replicate]
theorem lcg_int (x : Nat) : IntKind.u64.wrap (IntKind.u64.wrap ((x : Int) * 6364136223846793005) + 1442695040888963407) = (lcg x : Nat) := by
  rw [IntKind.wrap_u64, IntKind.wrap_u64]
  unfold lcg
  omega
theorem lcg_byte {x : Nat} (h : x < 18446744073709551616) : ((UInt8.ofNat (x / 72057594037927936)).toNat : Int) = (x : Int) / 72057594037927936 := by
  rw [UInt8.toNat_ofNat']
  omega

set_option maxHeartbeats 1000000 in
theorem oNoise (n s : Int) (w : World) (hs : s ≤ 3000) (hn0 : 0 ≤ n) (hn : n ≤ 18446744073709551615) (hlo : -9223372036854775808 ≤ s) :
    Calls Tryz.prog 109 #[.int .u64 n, .int .i64 s] w (Gives w (noiseL n.toNat s.toNat)) := by
  by_cases h1 : s < 1
  · have e : s.toNat = 0 := by omega
    rw [e, show noiseL n.toNat 0 = [] from rfl]
    clear e
    go_enter Tryz.func109, Tryz.ntmps109
    go_wp2_with fail
    go_ret
    exact Gives.mk (Own.nil _ _) (Below.refl _ _)
  · obtain ⟨m, rfl⟩ : ∃ m : Nat, s = m := ⟨s.toNat, by omega⟩
    obtain ⟨n, rfl⟩ : ∃ q : Nat, n = q := ⟨n.toNat, by omega⟩
    rw [Int.toNat_natCast, Int.toNat_natCast]
    have h2 : ¬ (2147483647 : Int) < m := by omega
    go_enter Tryz.func109, Tryz.ntmps109
    go_wp2_with (at_make; refine wpList_mkn _ rfl _ _ rfl w.heap.size m _ rfl rfl rfl (by omega) (Nat.le_refl _) ?_; intro g w1 hg hgl hown hbel)
    have hB : Blk w1 g (cs (List.replicate m 0)) 5 := hown.blkF (by simp)
    refine (oPut (n : Int) 8 w1 (by omega) (by omega) (by omega) (by omega)).mono ?_
    rintro e w2 ⟨a2, m2, c2, rfl, o2, hb2⟩
    have hB2 := hB.below hb2 hB.lt
    have hp := o2.toBs
    have hm2 : m2 = 8 := by have := hp.len; rw [Int.toNat_natCast, putL_length] at this; omega
    subst hm2
    rw [Int.toNat_natCast] at hp
    have hk2 : Below w.heap.size w w2 := hbel.trans (hb2.mono hbel.size)
    clear o2 hb2 hB hown hbel
    go_wp2_with ((with_reducible refine at_cp ?_); (refine wpList_cpo _ rfl _ _ rfl g 0 m m rfl a2 8 c2 rfl _ hp _ _ hB2 (by simp [cs_length]) (min 8 m) rfl ?_); intro w3 hB3 hg3)
    have HL : Hid (min 8 m ≤ m ∧ (min 8 m = 8 ∨ min 8 m = m)) := by refine ⟨?_, ?_⟩ <;> omega
    rw [show Int.toNat 8 = 8 from rfl, noise_start] at hB3
    have hO3 : Own w3 w.heap.size (.slice (some ⟨g, 0, none⟩) m m) (noiseL n (min 8 m) ++ List.replicate (m - min 8 m) 0) := Own.ofBlk hB3 hg (by rw [List.length_append, noiseL_length, List.length_replicate]; omega) (by omega)
    have hk3 : Below w.heap.size w w3 := below_of_but hk2 hg3 hg hk2.size
    have hx0 : lcgI n (min 8 m - 8) = n := by rw [show min 8 m - 8 = 0 from by omega]; rfl
    generalize min 8 m = j0 at *
    clear hB2 hp hk2 hB3 hg3
    go_loopw [6, 7] (fun x i wr => ∃ j : Nat, j0 ≤ j ∧ j ≤ m ∧ i = .int .i64 (j : Int) ∧ x = .int .u64 ((lcgI n (j - 8) : Nat) : Int) ∧ Own wr w.heap.size (.slice (some ⟨g, 0, none⟩) m m) (noiseL n j ++ List.replicate (m - j) 0) ∧ Below w.heap.size w wr) (fun _ i _ => m - (intOf i).toNat)
    case atStart => exact ⟨j0, Nat.le_refl _, HL.out.1, rfl, by rw [hx0], hO3, hk3⟩
    case round =>
      obtain ⟨j, hj0, hj, rfl, rfl, ho, hb⟩ := hrel
      clear hO3 hk3 hx0
      by_cases hlt : j < m
      · have h8 : 8 ≤ j := by have := HL.out; omega
        have hlen : (noiseL n j ++ List.replicate (m - j) (0 : UInt8)).length = m := by rw [List.length_append, noiseL_length, List.length_replicate]; omega
        obtain ⟨v0, hcell⟩ := ho.cell hlen j hlt
        have hfr := ho.free hlen j
        have ho2 := ho.set hlen j (lcgB n (j - 8))
        have hb2 := hb.setCell (p := ⟨g, j, none⟩) hg (.int .u8 ((lcgB n (j - 8)).toNat : Int))
        rw [noise_set n h8 hlt] at ho2
        obtain ⟨x, hx⟩ : ∃ x, x = lcgI n (j - 8) := ⟨_, rfl⟩
        have hy : lcg x = lcgI n (j + 1 - 8) := by rw [hx, show j + 1 - 8 = (j - 8) + 1 from by omega]; rfl
        have hu : ((lcgB n (j - 8)).toNat : Int) = (lcg x : Int) / 72057594037927936 := by rw [← lcg_byte (lcg_lt x), hx]; rfl
        rw [hu] at ho2 hb2
        rw [← hx]
        have hw := lcg_int x
        have hxl : x < 18446744073709551616 := by rw [hx]; exact lcgI_lt (by omega) _
        have hyl : lcg x < 18446744073709551616 := lcg_lt x
        have HY : Hid (lcg x = lcgI n (j + 1 - 8)) := hy
        clear hx hu hy
        generalize lcg x = y at *
        have HO : Hid (Own (wr.setCell ⟨g, j, none⟩ (.int .u8 ((y : Int) / 72057594037927936))) w.heap.size (.slice (some ⟨g, 0, none⟩) m m) (noiseL n (j + 1) ++ List.replicate (m - (j + 1)) 0)) := ho2
        have HB : Hid (Below w.heap.size w (wr.setCell ⟨g, j, none⟩ (.int .u8 ((y : Int) / 72057594037927936)))) := hb2
        clear ho2 hb2 hlen ho hb
        go_wp2_with fail
        go_roundw
        case rel => exact ⟨j + 1, by omega, by omega, by go_num, by rw [HY.out], HO.out, HB.out⟩
        case measure => simp [intOf]; omega
      · have hjm : j = m := by omega
        subst hjm
        have HO : Hid (Own wr w.heap.size (.slice (some ⟨g, 0, none⟩) j j) (noiseL n j)) := by have := ho; rwa [Nat.sub_self, List.replicate_zero, List.append_nil] at this
        clear ho
        go_wp2_with fail
        go_ret
        exact Gives.mk HO.out hb

end Go.Proofs.YtlenmkhmkommcaaGreat

/-
  Contracts of layer 12's program: what stands in the book, what comes of sealing, what opens for real. Conditions: bytes of at most a million, texts of at most 600.
-/
namespace Go.Proofs.YtlenmkhmkommcaaGreat
open Go.RowKit
set_option linter.unusedVariables false

theorem resCT12 {fn : Func} {p t : Tmp} {ty : TypeId} (h : fn.results = #[.cell p ty, .tmp t]) (tmps : Array Value) (w : World) (g : Nat) (cs : Array Value) (hp : tmps.getD p undef = .pointer (some ⟨g, 0, none⟩)) (hl : (loadVar ty ⟨g, 0, none⟩).run Tryz.prog w = .ok (.agg cs) w) (x : Value) (hx : tmps.getD t undef = x) : (results fn tmps).run Tryz.prog w = .ok (.tuple #[.agg cs, x]) w := by
  have hp' : tmps[p]?.getD undef = .pointer (some ⟨g, 0, none⟩) := by simpa using hp
  have hx' : tmps[t]?.getD undef = x := by simpa using hx
  simp [results, h, hp', hx', asAddr, hl]

set_option maxRecDepth 100000 in
set_option maxHeartbeats 2000000 in
theorem oFindG (w : World) {r : Nat} {S : SeaS} {M : SeaM} {g : KeyO → Option Value} (hB : Blk w r (seC S M) 100) (hM : Mks kvO okKO w M.m2 g) {k n b s b1 t1 : List UInt8} {tk : Bool} (fk : fitW k) (fn : fitW n) (fb : fitW b) (fs : fitW s) (hX : (g (k, n, b, s)).getD zct = .agg #[sv b1, sv t1]) (hTk : (g (k, n, b, s)).isSome = tk) :
    Calls Tryz.prog 92 #[.pointer (some ⟨r, 2, none⟩), kvO (k, n, b, s)] w fun e w' => e = .returned (.tuple #[.agg #[sv b1, sv t1], .bool tk]) ∧ Below w.heap.size w w' := by
  have hl := hB.lt
  have HB : Hid (Blk w r (seC S M) 100) := hB
  have H2 : Hid (Mks kvO okKO w M.m2 g) := hM
  clear hB hM
  have OKO : Hid (okKO (k, n, b, s)) := ⟨fk, fn, fb, fs⟩
  unfold kvO
  go_enter Tryz.func92, Tryz.ntmps92
  go_wp2_with fail
  obtain ⟨x3, h3⟩ : ∃ x, x = w.heap.size := ⟨_, rfl⟩
  obtain ⟨x4, h4⟩ : ∃ x, x = w.heap.size + 1 := ⟨_, rfl⟩
  have B3 : Hid (Blk ((w.alloc (.cells #[sv k, sv n, sv b, sv s] 168)).alloc (.cells #[.string ⟨#[]⟩, .string ⟨#[]⟩] 161)) x3 [sv k, sv n, sv b, sv s] 168) := by
    rw [h3]
    exact (Blk.new w _ _).old _
  have B4 : Hid (Blk ((w.alloc (.cells #[sv k, sv n, sv b, sv s] 168)).alloc (.cells #[.string ⟨#[]⟩, .string ⟨#[]⟩] 161)) x4 [.string ⟨#[]⟩, .string ⟨#[]⟩] 161) := by
    have := Blk.new (w.alloc (.cells #[sv k, sv n, sv b, sv s] 168)) #[.string ⟨#[]⟩, .string ⟨#[]⟩] 161
    rw [show (w.alloc (.cells #[sv k, sv n, sv b, sv s] 168)).heap.size = x4 from by rw [h4]; simp] at this
    exact this
  have KP : Hid (Below w.heap.size w ((w.alloc (.cells #[sv k, sv n, sv b, sv s] 168)).alloc (.cells #[.string ⟨#[]⟩, .string ⟨#[]⟩] 161))) := (below_alloc w _).trans ((below_alloc _ _).mono (below_alloc w _).size)
  have HX4 : Hid (w.heap.size ≤ x4) := by
    show _ ≤ _
    omega
  rw [← h4, ← h3]
  clear h3 h4
  generalize (w.alloc (.cells #[sv k, sv n, sv b, sv s] 168)).alloc (.cells #[.string ⟨#[]⟩, .string ⟨#[]⟩] 161) = w3 at *
  have M2 : Hid (Mks kvO okKO w3 M.m2 g) := H2.out.same (KP.out.block _ H2.out.lt)
  have BR : Hid (Blk w3 r (seC S M) 100) := HB.out.below KP.out HB.out.lt
  refine regionG (S := Grows w3) (by kernel_rfl) (Below.refl _ w3).drew ?_
  have F4 : ∀ u, Grows w3 u → u.cell? ⟨r, 4, none⟩ = some (.map (some M.m2)) := fun u hu => (BR.out.grows hu).cell 4
  refine takeG 0 (some 9) (.pointer (some ⟨r, 2, none⟩)) rfl rfl (by kernel_rfl) (by kernel_rfl) (by kernel_rfl) (fun _ _ _ h => h) (ans_plain (by rfl) (fun w _ => rfl)) ?_
  simp only [Act.put, List.setIfInBounds_toArray, List.set_cons_zero, List.set_cons_succ]
  refine takeG 1 (some 10) (.pointer (some ⟨r, 2, none⟩)) rfl rfl (by kernel_rfl) (by kernel_rfl) (by kernel_rfl) (fun _ _ _ h => h) (ans_plain (by rfl) (fun w _ => by unfold execOp; go_simp)) ?_
  simp only [Act.put, List.setIfInBounds_toArray, List.set_cons_zero, List.set_cons_succ]
  refine takeG 2 (some 11) (.pointer (some ⟨r, 4, none⟩)) rfl rfl (by kernel_rfl) (by kernel_rfl) (by kernel_rfl) (fun _ _ _ h => h) (ans_plain (by rfl) (fun w _ => by unfold execOp; go_simp)) ?_
  simp only [Act.put, List.setIfInBounds_toArray, List.set_cons_zero, List.set_cons_succ]
  refine takeG 3 (some 12) (.map (some M.m2)) rfl rfl (by kernel_rfl) (by kernel_rfl) (by kernel_rfl) (fun _ _ _ h => h) (ans_plain (by rfl) (fun w h => by have hc := F4 w h; unfold execOp; go_simp)) ?_
  simp only [Act.put, List.setIfInBounds_toArray, List.set_cons_zero, List.set_cons_succ]
  refine takeG 4 (some 13) (.agg #[sv k, sv n, sv b, sv s]) rfl rfl (by kernel_rfl) (by kernel_rfl) (by kernel_rfl) (fun _ _ _ h => h) (ans_row 168 (.tmp 3) _ 4 rfl (by rfl) x3 0 rfl [sv k, sv n, sv b, sv s] (fun u hu => (B3.out.grows hu).whole) Tryz.underlying168 rfl rfl sizeOp) ?_
  simp only [Act.put, List.setIfInBounds_toArray, List.set_cons_zero, List.set_cons_succ]
  refine takeG 5 (some 14) (.tuple #[(g (k, n, b, s)).getD zct, .bool (g (k, n, b, s)).isSome]) rfl rfl (by kernel_rfl) (by kernel_rfl) (by kernel_rfl) (fun _ _ _ h => h) (ans_lookK (.tmp 12) (.tmp 13) 93 168 161 rfl (by rfl) keysO Tryz.underlying93 zct zeroCt M.m2 g rfl (k, n, b, s) OKO.out rfl (fun u hu => M2.out.same (Below.block hu _ M2.out.lt))) ?_
  simp only [Act.put, List.setIfInBounds_toArray, List.set_cons_zero, List.set_cons_succ]
  rw [hX, hTk]
  clear hX hTk F4
  refine takeG 6 (some 8) (.tuple #[.agg #[sv b1, sv t1], .bool tk]) rfl rfl (by kernel_rfl) (by kernel_rfl) (by kernel_rfl) (fun _ _ _ h => h) (ans_plain (by rfl) (fun w _ => rfl)) ?_
  simp only [Act.put, List.setIfInBounds_toArray, List.set_cons_zero, List.set_cons_succ]
  refine takeG 7 (some 15) (.agg #[sv b1, sv t1]) rfl rfl (by kernel_rfl) (by kernel_rfl) (by kernel_rfl) (fun _ _ _ h => h) (ans_plain (by rfl) (fun w _ => by unfold execOp; go_simp)) ?_
  simp only [Act.put, List.setIfInBounds_toArray, List.set_cons_zero, List.set_cons_succ]
  refine takeG 8 (some 16) (.bool tk) rfl rfl (by kernel_rfl) (by kernel_rfl) (by kernel_rfl) (fun _ _ _ h => h) (ans_plain (by rfl) (fun w _ => by unfold execOp; go_simp)) ?_
  simp only [Act.put, List.setIfInBounds_toArray, List.set_cons_zero, List.set_cons_succ]
  refine alloc1 (fun _ _ h h' => Grows.trans h h') 9 6 (makesCt rfl) (by kernel_rfl) fun x9 w4 hg4 hs4 B9 hx9 => ?_
  simp only [Act.put, List.setIfInBounds_toArray, List.set_cons_zero, List.set_cons_succ]
  refine oneG 10 (by kernel_rfl) fun w5 hg5 hs5 => ?_
  refine opStR 10 161 (.tmp 6) (.tmp 15) 2 rfl rfl rfl rfl x9 _ [sv b1, sv t1] 161 (B9.grows hg5) rfl rfl (two_one _ _) sizeCt rfl rfl fun w6 B9' k6 => ?_
  have hx93 : w3.heap.size ≤ x9 := hx9
  have hs6 : Grows w3 w6 := Below.trans hs5 (k6.below (B := w3.heap.size) (Below.size hs5) (fun j hj e => by omega))
  refine ⟨hs6, ?_⟩
  refine takeG 11 (some 7) (.bool tk) rfl rfl (by kernel_rfl) (by kernel_rfl) (by kernel_rfl) (fun _ _ _ h => h) (ans_plain (by rfl) (fun w _ => rfl)) ?_
  simp only [Act.put, List.setIfInBounds_toArray, List.set_cons_zero, List.set_cons_succ]
  refine doneG (by kernel_rfl) fun w7 hg7 hs7 => ?_
  have B97 : Blk w7 x9 [sv b1, sv t1] 161 := B9'.grows hg7
  have B47 := B4.out.grows hs7
  have c90 : w7.cell? ⟨x9, 0, none⟩ = some (sv b1) := B97.cell 0
  have c91 : w7.cell? ⟨x9, 1, none⟩ = some (sv t1) := B97.cell 1
  have l9 := B97.lt
  have c40 : w7.cell? ⟨x4, 0, none⟩ = some (.string ⟨#[]⟩) := B47.cell 0
  have c41 : w7.cell? ⟨x4, 1, none⟩ = some (.string ⟨#[]⟩) := B47.cell 1
  have l4 := B47.lt
  have f40 := B47.free 0
  have f41 := B47.free 1
  have BF : Hid (Blk ((w7.setCell ⟨x4, 0, none⟩ (sv b1)).setCell ⟨x4, 1, none⟩ (sv t1)) x4 [sv b1, sv t1] 161) := (B47.setC 0 (sv b1)).setC 1 (sv t1)
  have KF : Hid (Below w.heap.size w ((w7.setCell ⟨x4, 0, none⟩ (sv b1)).setCell ⟨x4, 1, none⟩ (sv t1))) := ((KP.out.trans (Below.mono hs7 KP.out.size)).setCell (p := ⟨x4, 0, none⟩) HX4.out _).setCell (p := ⟨x4, 1, none⟩) HX4.out _
  clear B9' B9 hg4 hs4 hg5 hs5 k6 hs6 hg7 hs7 M2 B3 B4 KP H2 HB hx9 hx93 B97 B47 BR
  unfold sv at c90 c91
  go_wp2_with fail
  refine bodyPost_ret (v := .tuple #[.agg #[sv b1, sv t1], .bool tk]) (resCT12 Tryz.results92 _ _ x4 _ rfl (run_loadVar_row _ x4 161 161 _ (0, 0) _ BF.out Tryz.underlying161 rfl sizeCt) _ rfl) rfl ?_
  exact ⟨rfl, KF.out⟩
/-- What stands in the book so: the same in whatever world has grown. -/
theorem oFindB (w : World) {U : Nat → Prop} {r : Nat} {S : SeaS} {M : SeaM} (h : Se U w r S M) {k n b s : List UInt8} (fk : fitW k) (fn : fitW n) (fb : fitW b) (fs : fitW s) :
    ∃ b1 t1, fitW t1 ∧ (S.ideal = true → ∀ t, S.known k n b s = some t → t1 = t) ∧ ∀ u, Grows w u → Calls Tryz.prog 92 #[.pointer (some ⟨r, 2, none⟩), kvO (k, n, b, s)] u fun e w' => e = .returned (.tuple #[.agg #[sv b1, sv t1], .bool (S.known k n b s).isSome]) ∧ Below u.heap.size u w' := by
  obtain ⟨g, hg2, hgT⟩ := h.texts
  have hgo := hgT (k, n, b, s)
  dsimp only at hgo
  cases hk : S.known k n b s with
  | none =>
    rw [hk] at hgo
    exact ⟨[], [], Nat.zero_le _, fun _ t ht => (by cases ht), fun u hu => oFindG u (h.blk.grows hu) (hg2.same (Below.block hu _ hg2.lt)) fk fn fb fs (by rw [hgo]; rfl) (by rw [hgo]; rfl)⟩
  | some t =>
    rw [hk] at hgo
    obtain ⟨t', h1, h2, h3⟩ := hgo
    exact ⟨b, t', h2, fun hi t0 ht0 => by rw [← Option.some.inj ht0]; exact h3 hi, fun u hu => oFindG u (h.blk.grows hu) (hg2.same (Below.block hu _ hg2.lt)) fk fn fb fs (by rw [h1]; rfl) (by rw [h1]; rfl)⟩

/-- What comes of sealing: bytes, and what the sealer is then. -/
def Mades (U : Nat → Prop) (r : Nat) (S' : SeaS) (M : SeaM) (l : List UInt8) (w : World) (e : Ending) (w' : World) : Prop := ∃ a m c, e = .returned (.tuple #[.slice a m c, .int .i64 0]) ∧ Own w' w.heap.size (.slice a m c) l ∧ Se U w' r S' M ∧ Kp U w w'

set_option maxHeartbeats 1000000 in
theorem oMade (w : World) {U : Nat → Prop} {r : Nat} {S : SeaS} {M : SeaM} (h : Se U w r S M) {k n b t : List UInt8} {ak an ab at' : Option Addr} {ck cn nb cb nt ct : Nat} (hk : Bs w ak 32 ck k) (hn : Bs w an 12 cn n) (hb : Bs w ab nb cb b) (ht : Bs w at' nt ct t) (zb : nb ≤ 600) (zt : nt ≤ 600) (hc : S.count + S.book.length + 2 ≤ 1000000) (hid : Hid (S.ideal = true) := by first | assumption | (show _ = _; rfl)) :
    Calls Tryz.prog 82 #[.pointer (some ⟨r, 0, none⟩), .slice ak 32 ck, .slice an 12 cn, .slice ab nb cb, .slice at' nt ct] w (Mades U r { S with count := S.next } M (S.made k n b t) w) := by
  have hi0 : w.cell? ⟨r, 0, none⟩ = some (.bool S.ideal) := h.blk.cell 0
  have hl := h.blk.lt
  have HS : Hid (Se U w r S M) := h
  rcases Bool.eq_false_or_eq_true S.ideal with hi | hi
  · have hz := ht.len
    have HM : Hid (S.made k n b t = noiseL (S.count + 1) (nt + 16) ∧ S.next = S.count + 1) := ⟨by unfold SeaS.made; rw [if_pos hi, hz], by unfold SeaS.next; rw [if_pos hi]⟩
    rw [hi] at hi0
    clear h hz hi hk hn hb ht
    go_enter Tryz.func82, Tryz.ntmps82
    go_wp2_with fail
    refine (oSNext w HS.out (by omega)).mono ?_
    rintro e w1 ⟨rfl, hS1, hk1⟩
    go_wp2_with fail
    refine (oNoise ((S.count + 1 : Nat) : Int) ((nt : Int) + 16) w1 (by omega) (by omega) (by omega) (by omega)).mono ?_
    rintro e w2 ⟨a2, m2, c2, rfl, o2, hb2⟩
    go_wp2_with fail
    go_ret2
    refine ⟨a2, m2, c2, rfl, ?_, ?_, ?_⟩
    · rw [HM.out.1]
      have e1 : (((S.count + 1 : Nat) : Int)).toNat = S.count + 1 := by omega
      have e2 : ((nt : Int) + 16).toNat = nt + 16 := by omega
      rw [e1, e2] at o2
      exact o2.mono hk1.size
    · rw [HM.out.2]
      exact hS1.grow hb2
    · exact (hk1.mono fun j _ e => by rw [e]; exact HS.out.inR).trans (Kp.of_below hb2)
  · exact absurd (hid.out.symm.trans hi) (by decide)

end Go.Proofs.YtlenmkhmkommcaaGreat
