/-
  3 texts in one. No statement of the seat is proved here.
-/
import Derived.Test.YtlenmkhmkommcaaGreatG13

/-
  Contracts of layer 12's program's book: one thing more in it, what stands in it. Conditions: bytes of at most a million.
-/
namespace Go.Proofs.YtlenmkhmkommcaaGreat
open Go.RowKit
set_option linter.unusedVariables false

def zct : Value := ctv [] []
theorem zeroCt (w : World) : (zeroValue 161).run Tryz.prog w = .ok zct w := by kernel_rfl
theorem builtOp (k n b s : ByteArray) : Tryz.prog.built 168 [(0, .agg #[.string k, .string n]), (1, .string b), (2, .string s)] = some #[.string k, .string n, .string b, .string s] := by kernel_rfl
theorem sizePl : (Tryz.prog.info? 159).map (·.size) = some 2 := by kernel_rfl
theorem sizeCt : (Tryz.prog.info? 161).map (·.size) = some 2 := by kernel_rfl
theorem sizeOp : (Tryz.prog.info? 168).map (·.size) = some 4 := by kernel_rfl
theorem makesCt {ops : Array Oper} {i : Nat} {d : Tmp} {tp : TypeId} {pos : String} {aft : Array Edge} (hi : ops[i]? = some { dst := some d, op := .alloc 161, type := tp, pos := pos, after := aft, guard := none }) : Makes Tryz.prog ops i d #[sv [], sv []] 161 :=
  ⟨_, hi, rfl, rfl, fun ρ w => by unfold execOp; go_simp; rfl⟩
theorem two_one (b t : List UInt8) : ∀ v ∈ [sv b, sv t], v.oneCell' = true := by
  intro v hv
  simp only [List.mem_cons, List.not_mem_nil, or_false] at hv
  rcases hv with rfl | rfl <;> rfl
theorem fst_add_none {S : SeaS} {k n : List UInt8} (h : S.first k n = none) (b t s : List UInt8) : updK (fstK S) (k, n) (ctv b t) = fstK (S.add k n b t s) := by
  funext p
  unfold updK fstK
  rw [S.first_add]
  by_cases hp : p = (k, n)
  · subst hp
    dsimp only
    rw [if_pos rfl, h]
    simp
  · rw [if_neg hp]
    cases hf : S.first p.1 p.2 with
    | some e => rfl
    | none =>
      dsimp only
      rw [if_neg]
      · rintro ⟨rfl, rfl⟩
        exact hp rfl
theorem fst_add_some {S : SeaS} {k n : List UInt8} {e : Ent} (h : S.first k n = some e) (b t s : List UInt8) : fstK (S.add k n b t s) = fstK S := by
  funext p
  unfold fstK
  rw [S.first_add]
  cases hf : S.first p.1 p.2 with
  | some e => rfl
  | none =>
    dsimp only
    rw [if_neg]
    rintro ⟨rfl, rfl⟩
    rw [h] at hf
    cases hf
theorem txt_add {S : SeaS} {g : KeyO → Option Value} (h : TxtK S g) (k n b t s : List UInt8) (ht : fitW t) (hfr : S.ideal = true → S.known k n b s = none) : TxtK (S.add k n b t s) (updK g (k, n, b, s) (ctv b t)) := by
  intro o
  rw [S.known_add]
  have ho := h o
  unfold updK
  by_cases hp : o = (k, n, b, s)
  · subst hp
    rw [if_pos rfl]
    cases hk : S.known k n b s with
    | none =>
      dsimp only
      rw [if_pos ⟨rfl, rfl, rfl, rfl⟩]
      exact ⟨t, rfl, ht, fun _ => rfl⟩
    | some t0 =>
      dsimp only
      refine ⟨t, rfl, ht, fun hi => ?_⟩
      have hi' : S.ideal = true := hi
      rw [hfr hi'] at hk
      cases hk
  · rw [if_neg hp]
    cases hk : S.known o.1 o.2.1 o.2.2.1 o.2.2.2 with
    | none =>
      dsimp only
      rw [if_neg]
      · dsimp only
        rw [hk] at ho
        exact ho
      · rintro ⟨rfl, rfl, rfl, rfl⟩
        exact hp rfl
    | some t0 =>
      rw [hk] at ho
      exact ho
theorem Se.tne {U : Nat → Prop} {w : World} {r : Nat} {S : SeaS} {M : SeaM} (h : Se U w r S M) {g : Nat} (hg : Blk w g (cs tabT) 140) : g ≠ r := fun e => by
  have h4 := h.blk
  rw [e] at hg
  unfold Blk at hg h4
  rw [h4] at hg
  simp only [Option.some.injEq, Obj.cells.injEq] at hg
  exact absurd hg.2.1 (by decide)
/-- The book's two maps and its count were written. -/
theorem Se.added {U : Nat → Prop} {w w' : World} {r : Nat} {S : SeaS} {M : SeaM} (h : Se U w r S M) {k n b t s : List UInt8} (hb : Blk w' r (seC (S.add k n b t s) M) 100) (h1 : Mks kvP okKP w' M.m1 (fstK (S.add k n b t s))) {g : KeyO → Option Value} (hT : TxtK (S.add k n b t s) g) (h2 : Mks kvO okKO w' M.m2 g)
    (kp : Kp (fun j => j = r ∨ j = M.m1 ∨ j = M.m2) w w') (hn : S.count + S.book.length + 1 ≤ 1000000) : Se U w' r (S.add k n b t s) M ∧ Kp U w w' := by
  refine ⟨⟨fun j hj => Nat.lt_of_lt_of_le (h.lt j hj) kp.size, h.inR, hb, h.in1, h.in2, h.ne12, h1, ⟨g, h2, hT⟩, fun hi => ?_, fun hi => ?_, ?_⟩, kp.mono fun j _ hj => ?_⟩
  · obtain ⟨m3, a1, a2, a3, a4, a5⟩ := h.keys hi
    refine ⟨m3, a1, a2, a3, a4, a5.same (kp.block _ a5.lt ?_)⟩
    rintro (e | e | e)
    · exact (a5.notCells h.blk).symm e
    · exact a3 e
    · exact a4 e
  · obtain ⟨q, a1, a2, a3⟩ := h.tab hi
    obtain ⟨g2, b1, _⟩ := h.texts
    refine ⟨q, a1, a2, kp.blk a3 ?_⟩
    rintro (e | e | e)
    · exact h.tne a3 e
    · exact h.first.notCells a3 e
    · exact b1.notCells a3 e
  · have : (S.add k n b t s).book.length = S.book.length + 1 := by simp [SeaS.add]
    rw [this]
    exact hn
  · rcases hj with rfl | rfl | rfl
    · exact h.inR
    · exact h.in1
    · exact h.in2
theorem sv_beq (x y : List UInt8) : (ByteArray.mk x.toArray == ByteArray.mk y.toArray) = decide (x = y) := by
  by_cases h : x = y
  · subst h
    rw [decide_eq_true rfl]
    exact (MapKept.bytes_beq _ _).2 rfl
  · rw [decide_eq_false h, Bool.eq_false_iff]
    intro e
    have := (MapKept.bytes_beq _ _).1 e
    simp only [ByteArray.mk.injEq] at this
    exact h (by simpa using this)
theorem eqStr (d : Nat) (x y : List UInt8) (w : World) : Sem.run Tryz.prog (Op.equalIn (d + 1) 9 (sv x) (sv y)) w = .ok (decide (x = y)) w := by
  rw [← sv_beq]
  simp [Op.equalIn, run_underlying Tryz.underlying9, sv]
/-- Does something else stand there? -/
def SeaS.tells (S : SeaS) (k n b t : List UInt8) : Bool := match S.first k n with | some e => !decide (e.beside = b ∧ e.text = t) | none => false
/-- Bytes outlast what is written to a block of no bytes. -/
theorem Bs.kpCells {w w' : World} {a : Option Addr} {m c : Nat} {l : List UInt8} (h : Bs w a m c l) {r : Nat} (kp : Kp (fun j => j = r) w w') {vs : List Value} {t : TypeId} (hb : Blk w r vs t) (hn : ∀ (i : Nat) v, vs[i]? = some v → ∀ x, v ≠ .int .u8 x) : Bs w' a m c l := by
  obtain ⟨h1, h2, h3, h4, h5⟩ := h
  refine ⟨h1, h2, h3, h4, fun i hi => ?_⟩
  obtain ⟨b, o, ha, hc⟩ := h5 i hi
  refine ⟨b, o, ha, ?_⟩
  have hne : b ≠ r := fun e => by
    subst e
    rw [cell_of_row w b (o + i) vs.toArray t (0, 0) hb] at hc
    exact hn (o + i) _ (by simpa using hc) _ rfl
  rw [World.cell?_of_block (w := w) (kp.block b (lt_of_cell hc) hne)]
  exact hc
theorem seC_noByte {S : SeaS} {M : SeaM} {i : Nat} {v : Value} (h : (seC S M)[i]? = some v) : ∀ x, v ≠ .int .u8 x := by
  have hm := List.mem_of_getElem? h
  simp only [seC, List.mem_cons, List.not_mem_nil, or_false] at hm
  rcases hm with rfl | rfl | rfl | rfl | rfl | rfl | rfl | rfl | rfl <;> simp
theorem Bs.kpMap {κ : Type} {kv : κ → Value} {ok : κ → Prop} {w w' : World} {a : Option Addr} {m c : Nat} {l : List UInt8} (h : Bs w a m c l) {r : Nat} (kp : Kp (fun j => j = r) w w') {f : κ → Option Value} (hm : Mks kv ok w r f) : Bs w' a m c l := by
  obtain ⟨h1, h2, h3, h4, h5⟩ := h
  refine ⟨h1, h2, h3, h4, fun i hi => ?_⟩
  obtain ⟨b, o, ha, hc⟩ := h5 i hi
  refine ⟨b, o, ha, ?_⟩
  have hne : b ≠ r := fun e => by
    subst e
    obtain ⟨es, clock, hh, _⟩ := hm
    unfold World.cell? at hc
    rw [hh] at hc
    simp at hc
  rw [World.cell?_of_block (w := w) (kp.block b (lt_of_cell hc) hne)]
  exact hc

set_option maxRecDepth 100000 in
set_option maxHeartbeats 2000000 in
theorem oAddB (w : World) {U : Nat → Prop} {r : Nat} {S : SeaS} {M : SeaM} (h : Se U w r S M) {k n b t s : List UInt8} {a : Option Addr} {m c : Nat} (ha : Bs w a m c s) (fk : fitW k) (fn : fitW n) (fb : fitW b) (ft : fitW t) (fs : fitW s) (hfr : S.ideal = true → S.known k n b s = none) (hn : S.count + S.book.length + 1 ≤ 1000000) :
    Calls Tryz.prog 83 #[.pointer (some ⟨r, 2, none⟩), kvP (k, n), ctv b t, .slice a m c] w fun e w' => e = .returned (.bool (S.tells k n b t)) ∧ Se U w' r (S.add k n b t s) M ∧ Kp U w w' := by
  have HS : Hid (Se U w r S M) := h
  have hc : w.cell? ⟨r, 2, none⟩ = some (.int .i64 (S.book.length : Int)) := h.blk.cell 2
  have hl := h.blk.lt
  have hf := h.blk.free 2
  have hb := h.bound
  have HB : Hid (Blk w r (seC S M) 100) := h.blk
  have H1 : Hid (Mks kvP okKP w M.m1 (fstK S)) := h.first
  obtain ⟨g, hg2, hgT⟩ := h.texts
  have H2 : Hid (Mks kvO okKO w M.m2 g) := hg2
  have HT : Hid (TxtK S g) := hgT
  have HA : Hid (Bs w a m c s) := ha
  have HR : Hid (r ≠ M.m1 ∧ r ≠ M.m2 ∧ M.m1 ≠ M.m2) := ⟨h.first.notCells h.blk, hg2.notCells h.blk, h.ne12⟩
  clear h hg2 hgT ha
  obtain ⟨q, hq⟩ : ∃ q, q = S.book.length := ⟨_, rfl⟩
  rw [← hq] at hc
  have hq1 : q ≤ 1000000 := by omega
  have HQ : Hid (q = S.book.length) := hq
  clear hq hb
  have OKP : Hid (okKP (k, n)) := ⟨fk, fn⟩
  have OKO : Hid (okKO (k, n, b, s)) := ⟨fk, fn, fb, fs⟩
  unfold kvP ctv
  go_enter Tryz.func83, Tryz.ntmps83
  go_wp2_with fail
  obtain ⟨x5, h5⟩ : ∃ x, x = w.heap.size := ⟨_, rfl⟩
  obtain ⟨x6, h6⟩ : ∃ x, x = w.heap.size + 1 := ⟨_, rfl⟩
  have B5 : Hid (Blk (((w.setCell ⟨r, 2, none⟩ (.int .i64 ((q : Int) + 1))).alloc (.cells #[sv k, sv n] 159)).alloc (.cells #[sv b, sv t] 161)) x5 [sv k, sv n] 159) := by
    have := (Blk.new (w.setCell ⟨r, 2, none⟩ (.int .i64 ((q : Int) + 1))) #[sv k, sv n] 159).old (.cells #[sv b, sv t] 161)
    rw [show (w.setCell ⟨r, 2, none⟩ (.int .i64 ((q : Int) + 1))).heap.size = x5 from by rw [h5]; simp [World.setCell]] at this
    exact this
  have B6 : Hid (Blk (((w.setCell ⟨r, 2, none⟩ (.int .i64 ((q : Int) + 1))).alloc (.cells #[sv k, sv n] 159)).alloc (.cells #[sv b, sv t] 161)) x6 [sv b, sv t] 161) := by
    have := Blk.new ((w.setCell ⟨r, 2, none⟩ (.int .i64 ((q : Int) + 1))).alloc (.cells #[sv k, sv n] 159)) #[sv b, sv t] 161
    rw [show ((w.setCell ⟨r, 2, none⟩ (.int .i64 ((q : Int) + 1))).alloc (.cells #[sv k, sv n] 159)).heap.size = x6 from by rw [h6]; simp [World.setCell]] at this
    exact this
  have KP : Hid (Kp (fun j => j = r) w (((w.setCell ⟨r, 2, none⟩ (.int .i64 ((q : Int) + 1))).alloc (.cells #[sv k, sv n] 159)).alloc (.cells #[sv b, sv t] 161))) := (Kp.alloc (Kp.of_grown (but_set w r 2 _)) _).alloc _
  have BR : Hid (Blk (((w.setCell ⟨r, 2, none⟩ (.int .i64 ((q : Int) + 1))).alloc (.cells #[sv k, sv n] 159)).alloc (.cells #[sv b, sv t] 161)) r (seC (S.add k n b t s) M) 100) := by
    have := ((HB.out.setC 2 (.int .i64 ((q : Int) + 1))).old (.cells #[sv k, sv n] 159)).old (.cells #[sv b, sv t] 161)
    have e : (seC S M).set 2 (.int .i64 ((q : Int) + 1)) = seC (S.add k n b t s) M := by
      have : ((S.add k n b t s).book.length : Int) = (q : Int) + 1 := by simp [SeaS.add, HQ.out]
      unfold seC
      rw [this]
      rfl
    rw [e] at this
    exact this
  rw [← h6, ← h5]
  have hx5 : x5 < x6 ∧ w.heap.size ≤ x5 := by omega
  clear h5 h6 hc hf
  generalize ((w.setCell ⟨r, 2, none⟩ (.int .i64 ((q : Int) + 1))).alloc (.cells #[sv k, sv n] 159)).alloc (.cells #[sv b, sv t] 161) = w3 at *
  have M1 : Hid (Mks kvP okKP w3 M.m1 (fstK S)) := H1.out.same (KP.out.block _ H1.out.lt fun e => HR.out.1 e.symm)
  have M2 : Hid (Mks kvO okKO w3 M.m2 g) := H2.out.same (KP.out.block _ H2.out.lt fun e => HR.out.2.1 e.symm)
  have A3 : Hid (Bs w3 a m c s) := Bs.kpCells HA.out KP.out HB.out (fun i v hv => seC_noByte hv)
  obtain ⟨b0, t0, hX⟩ : ∃ b0 t0, ((fstK S) (k, n)).getD zct = .agg #[sv b0, sv t0] := by
    unfold fstK
    cases S.first k n with
    | none => exact ⟨[], [], rfl⟩
    | some e => exact ⟨e.beside, e.text, rfl⟩
  obtain ⟨tk, hTk⟩ : ∃ tk, ((fstK S) (k, n)).isSome = tk := ⟨_, rfl⟩
  have HX : Hid (((fstK S) (k, n)).getD zct = .agg #[sv b0, sv t0] ∧ ((fstK S) (k, n)).isSome = tk) := ⟨hX, hTk⟩
  refine regionG (S := Grows w3) (by kernel_rfl) (Below.refl _ w3).drew ?_
  have F3 : ∀ u, Grows w3 u → u.cell? ⟨r, 3, none⟩ = some (.map (some M.m1)) := fun u hu => (BR.out.grows hu).cell 3
  refine takeG 0 (some 19) (.pointer (some ⟨r, 2, none⟩)) rfl rfl (by kernel_rfl) (by kernel_rfl) (by kernel_rfl) (fun _ _ _ h => h) (ans_plain (by rfl) (fun w _ => rfl)) ?_
  simp only [Act.put, List.setIfInBounds_toArray, List.set_cons_zero, List.set_cons_succ]
  refine takeG 1 (some 20) (.pointer (some ⟨r, 2, none⟩)) rfl rfl (by kernel_rfl) (by kernel_rfl) (by kernel_rfl) (fun _ _ _ h => h) (ans_plain (by rfl) (fun w _ => by unfold execOp; go_simp)) ?_
  simp only [Act.put, List.setIfInBounds_toArray, List.set_cons_zero, List.set_cons_succ]
  refine takeG 2 (some 21) (.pointer (some ⟨r, 3, none⟩)) rfl rfl (by kernel_rfl) (by kernel_rfl) (by kernel_rfl) (fun _ _ _ h => h) (ans_plain (by rfl) (fun w _ => by unfold execOp; go_simp)) ?_
  simp only [Act.put, List.setIfInBounds_toArray, List.set_cons_zero, List.set_cons_succ]
  refine takeG 3 (some 22) (.map (some M.m1)) rfl rfl (by kernel_rfl) (by kernel_rfl) (by kernel_rfl) (fun _ _ _ h => h) (ans_plain (by rfl) (fun w h => by have hc := F3 w h; unfold execOp; go_simp)) ?_
  simp only [Act.put, List.setIfInBounds_toArray, List.set_cons_zero, List.set_cons_succ]
  refine takeG 4 (some 23) (.agg #[sv k, sv n]) rfl rfl (by kernel_rfl) (by kernel_rfl) (by kernel_rfl) (fun _ _ _ h => h) (ans_row 159 (.tmp 5) _ 2 rfl (by rfl) x5 0 rfl [sv k, sv n] (fun u hu => (B5.out.grows hu).whole) Tryz.underlying159 rfl rfl sizePl) ?_
  simp only [Act.put, List.setIfInBounds_toArray, List.set_cons_zero, List.set_cons_succ]
  refine takeG 5 (some 24) (.tuple #[((fstK S) (k, n)).getD zct, .bool ((fstK S) (k, n)).isSome]) rfl rfl (by kernel_rfl) (by kernel_rfl) (by kernel_rfl) (fun _ _ _ h => h) (ans_lookK (.tmp 22) (.tmp 23) 92 159 161 rfl (by rfl) keysP Tryz.underlying92 zct zeroCt M.m1 (fstK S) rfl (k, n) OKP.out rfl (fun u hu => M1.out.same (Below.block hu _ M1.out.lt))) ?_
  simp only [Act.put, List.setIfInBounds_toArray, List.set_cons_zero, List.set_cons_succ]
  rw [hX, hTk]
  clear hX hTk F3
  refine takeG 6 (some 18) (.tuple #[.agg #[sv b0, sv t0], .bool tk]) rfl rfl (by kernel_rfl) (by kernel_rfl) (by kernel_rfl) (fun _ _ _ h => h) (ans_plain (by rfl) (fun w _ => rfl)) ?_
  simp only [Act.put, List.setIfInBounds_toArray, List.set_cons_zero, List.set_cons_succ]
  refine takeG 7 (some 25) (.agg #[sv b0, sv t0]) rfl rfl (by kernel_rfl) (by kernel_rfl) (by kernel_rfl) (fun _ _ _ h => h) (ans_plain (by rfl) (fun w _ => by unfold execOp; go_simp)) ?_
  simp only [Act.put, List.setIfInBounds_toArray, List.set_cons_zero, List.set_cons_succ]
  refine takeG 8 (some 26) (.bool tk) rfl rfl (by kernel_rfl) (by kernel_rfl) (by kernel_rfl) (fun _ _ _ h => h) (ans_plain (by rfl) (fun w _ => by unfold execOp; go_simp)) ?_
  simp only [Act.put, List.setIfInBounds_toArray, List.set_cons_zero, List.set_cons_succ]
  refine alloc1 (fun _ _ h h' => Grows.trans h h') 9 9 (makesCt rfl) (by kernel_rfl) fun x9 w4 hg4 hs4 B9 hx9 => ?_
  simp only [Act.put, List.setIfInBounds_toArray, List.set_cons_zero, List.set_cons_succ]
  refine oneG 10 (by kernel_rfl) fun w5 hg5 hs5 => ?_
  refine opStR 10 161 (.tmp 9) (.tmp 25) 2 rfl rfl rfl rfl x9 _ [sv b0, sv t0] 161 (B9.grows hg5) rfl rfl (two_one _ _) sizeCt rfl rfl fun w6 B9' k6 => ?_
  have hx93 : w3.heap.size ≤ x9 := hx9
  have hs6 : Grows w3 w6 := Below.trans hs5 (k6.below (B := w3.heap.size) (Below.size hs5) (fun j hj e => by omega))
  refine ⟨hs6, ?_⟩
  refine takeG 11 (some 10) (.bool tk) rfl rfl (by kernel_rfl) (by kernel_rfl) (by kernel_rfl) (fun _ _ _ h => h) (ans_plain (by rfl) (fun w _ => rfl)) ?_
  simp only [Act.put, List.setIfInBounds_toArray, List.set_cons_zero, List.set_cons_succ]
  refine doneG (by kernel_rfl) fun w7 hg7 hs7 => ?_
  have B97 : Hid (Blk w7 x9 [sv b0, sv t0] 161) := B9'.grows hg7
  have B57 : Hid (Blk w7 x5 [sv k, sv n] 159) := B5.out.grows hs7
  have B67 : Hid (Blk w7 x6 [sv b, sv t] 161) := B6.out.grows hs7
  have BR7 : Hid (Blk w7 r (seC (S.add k n b t s) M) 100) := BR.out.grows hs7
  have M17 : Hid (Mks kvP okKP w7 M.m1 (fstK S)) := M1.out.same (Below.block hs7 _ M1.out.lt)
  have M27 : Hid (Mks kvO okKO w7 M.m2 g) := M2.out.same (Below.block hs7 _ M2.out.lt)
  have A7 : Hid (Bs w7 a m c s) := A3.out.below hs7 (Nat.le_refl _)
  have K7 : Hid (Kp (fun j => j = r) w w7) := KP.out.trans (Kp.of_below hs7)
  have HXX : Hid (x9 ≠ x6) := by
    show x9 ≠ x6
    have := B6.out.lt
    omega
  clear B9' B9 hg4 hs4 hg5 hs5 k6 hs6 hg7 hs7 M1 M2 A3 BR B5 B6 KP H1 H2 HB hx9 hx93 hx5 hl
  cases hfirst : S.first k n with
  | none =>
    have htk : tk = false := by rw [← HX.out.2]; unfold fstK; rw [hfirst]; rfl
    subst htk
    have HF : Hid (S.first k n = none) := hfirst
    have HTL : Hid (S.tells k n b t = false) := by show _ = _; unfold SeaS.tells; rw [hfirst]
    clear hfirst
    go_wp2_with fail
    have F3 : ∀ u, Grows w7 u → u.cell? ⟨r, 3, none⟩ = some (.map (some M.m1)) := fun u hu => (BR7.out.grows hu).cell 3
    refine regionE 6 (S := Grows w7) (by kernel_rfl) (Below.refl _ w7).drew ?_
    refine takeT 0 (some 29) (.pointer (some ⟨r, 2, none⟩)) rfl rfl (by kernel_rfl) (fun _ _ _ h => h) (ans_plain (by rfl) (fun w _ => rfl)) ?_
    simp only [Act.put, List.setIfInBounds_toArray, List.set_cons_zero, List.set_cons_succ]
    refine takeT 1 (some 30) (.pointer (some ⟨r, 2, none⟩)) rfl rfl (by kernel_rfl) (fun _ _ _ h => h) (ans_plain (by rfl) (fun w _ => by unfold execOp; go_simp)) ?_
    simp only [Act.put, List.setIfInBounds_toArray, List.set_cons_zero, List.set_cons_succ]
    refine takeT 2 (some 31) (.pointer (some ⟨r, 3, none⟩)) rfl rfl (by kernel_rfl) (fun _ _ _ h => h) (ans_plain (by rfl) (fun w _ => by unfold execOp; go_simp)) ?_
    simp only [Act.put, List.setIfInBounds_toArray, List.set_cons_zero, List.set_cons_succ]
    refine takeT 3 (some 32) (.map (some M.m1)) rfl rfl (by kernel_rfl) (fun _ _ _ h => h) (ans_plain (by rfl) (fun w h => by have hc := F3 w h; unfold execOp; go_simp)) ?_
    simp only [Act.put, List.setIfInBounds_toArray, List.set_cons_zero, List.set_cons_succ]
    refine takeT 4 (some 33) (.agg #[sv k, sv n]) rfl rfl (by kernel_rfl) (fun _ _ _ h => h) (ans_row 159 (.tmp 5) _ 2 rfl (by rfl) x5 0 rfl [sv k, sv n] (fun u hu => (B57.out.grows hu).whole) Tryz.underlying159 rfl rfl sizePl) ?_
    simp only [Act.put, List.setIfInBounds_toArray, List.set_cons_zero, List.set_cons_succ]
    refine takeT 5 (some 34) (.agg #[sv b, sv t]) rfl rfl (by kernel_rfl) (fun _ _ _ h => h) (ans_row 161 (.tmp 6) _ 2 rfl (by rfl) x6 0 rfl [sv b, sv t] (fun u hu => (B67.out.grows hu).whole) Tryz.underlying161 rfl rfl sizeCt) ?_
    simp only [Act.put, List.setIfInBounds_toArray, List.set_cons_zero, List.set_cons_succ]
    refine lastE (by kernel_rfl) (by kernel_rfl) (by kernel_rfl) (by kernel_rfl) fun w8 hg8 hs8 => ?_
    refine opMsetK 6 92 159 161 (.tmp 32) (.tmp 33) (.tmp 34) rfl rfl rfl rfl keysP Tryz.underlying92 M.m1 (fstK S) rfl (k, n) OKP.out rfl (ctv b t) rfl (M17.out.same (Below.block hs8 _ M17.out.lt)) fun w9 k19 hgr9 => ?_
    intro wA hgA
    have kA : Kp (fun j => j = M.m1) w7 wA := ((Kp.of_below hs8).trans (Kp.of_grown hgr9)).trans (Kp.of_below hgA)
    have M1A : Hid (Mks kvP okKP wA M.m1 (fstK (S.add k n b t s))) := by
      rw [fst_add_none HF.out b t s] at k19
      exact k19.same (Below.block hgA _ k19.lt)
    have M2A : Hid (Mks kvO okKO wA M.m2 g) := M27.out.same (kA.block _ M27.out.lt fun e => HR.out.2.2 e.symm)
    have B5A : Hid (Blk wA x5 [sv k, sv n] 159) := kA.blk B57.out (M17.out.notCells B57.out)
    have B6A : Hid (Blk wA x6 [sv b, sv t] 161) := kA.blk B67.out (M17.out.notCells B67.out)
    have BRA : Hid (Blk wA r (seC (S.add k n b t s) M) 100) := kA.blk BR7.out (M17.out.notCells BR7.out)
    have AA : Hid (Bs wA a m c s) := Bs.kpMap A7.out kA M17.out
    have KA : Hid (Kp (fun j => j = r ∨ j = M.m1 ∨ j = M.m2) w wA) := (K7.out.mono fun j _ e => Or.inl e).trans (kA.mono fun j _ e => Or.inr (Or.inl e))
    clear kA k19 hgr9 hgA hg8 hs8 F3 M17 M27 B57 B67 BR7 A7 K7
    go_wp2_with fail
    have F4 : ∀ u, Grows wA u → u.cell? ⟨r, 4, none⟩ = some (.map (some M.m2)) := fun u hu => (BRA.out.grows hu).cell 4
    have F6 : ∀ u, Grows wA u → u.cell? ⟨x6, 0, none⟩ = some (sv b) := fun u hu => (B6A.out.grows hu).cell 0
    refine regionE 11 (S := Grows wA) (by kernel_rfl) (Below.refl _ wA).drew ?_
    refine takeT 0 (some 35) (.pointer (some ⟨r, 2, none⟩)) rfl rfl (by kernel_rfl) (fun _ _ _ h => h) (ans_plain (by rfl) (fun w _ => rfl)) ?_
    simp only [Act.put, List.setIfInBounds_toArray, List.set_cons_zero, List.set_cons_succ]
    refine takeT 1 (some 36) (.pointer (some ⟨r, 2, none⟩)) rfl rfl (by kernel_rfl) (fun _ _ _ h => h) (ans_plain (by rfl) (fun w _ => by unfold execOp; go_simp)) ?_
    simp only [Act.put, List.setIfInBounds_toArray, List.set_cons_zero, List.set_cons_succ]
    refine takeT 2 (some 37) (.pointer (some ⟨r, 4, none⟩)) rfl rfl (by kernel_rfl) (fun _ _ _ h => h) (ans_plain (by rfl) (fun w _ => by unfold execOp; go_simp)) ?_
    simp only [Act.put, List.setIfInBounds_toArray, List.set_cons_zero, List.set_cons_succ]
    refine takeT 3 (some 38) (.map (some M.m2)) rfl rfl (by kernel_rfl) (fun _ _ _ h => h) (ans_plain (by rfl) (fun w h => by have hc := F4 w h; unfold execOp; go_simp)) ?_
    simp only [Act.put, List.setIfInBounds_toArray, List.set_cons_zero, List.set_cons_succ]
    refine takeT 4 (some 39) (.agg #[sv k, sv n]) rfl rfl (by kernel_rfl) (fun _ _ _ h => h) (ans_row 159 (.tmp 5) _ 2 rfl (by rfl) x5 0 rfl [sv k, sv n] (fun u hu => (B5A.out.grows hu).whole) Tryz.underlying159 rfl rfl sizePl) ?_
    simp only [Act.put, List.setIfInBounds_toArray, List.set_cons_zero, List.set_cons_succ]
    refine takeT 5 (some 40) (.pointer (some ⟨x6, 0, none⟩)) rfl rfl (by kernel_rfl) (fun _ _ _ h => h) (ans_plain (by rfl) (fun w _ => by unfold execOp; go_simp)) ?_
    simp only [Act.put, List.setIfInBounds_toArray, List.set_cons_zero, List.set_cons_succ]
    refine takeT 6 (some 41) (sv b) rfl rfl (by kernel_rfl) (fun _ _ _ h => h) (ans_plain (by rfl) (fun w h => by have hc := F6 w h; unfold execOp; go_simp)) ?_
    simp only [Act.put, List.setIfInBounds_toArray, List.set_cons_zero, List.set_cons_succ]
    refine takeT 7 (some 42) (.slice a m c) rfl rfl (by kernel_rfl) (fun _ _ _ h => h) (ans_plain (by rfl) (fun w _ => rfl)) ?_
    simp only [Act.put, List.setIfInBounds_toArray, List.set_cons_zero, List.set_cons_succ]
    refine takeT 8 (some 43) (sv s) rfl rfl (by kernel_rfl) (fun _ _ _ h => h) (ans_str (.tmp 42) rfl (by rfl) a m c s rfl (fun u hu => AA.out.below hu (Nat.le_refl _))) ?_
    simp only [Act.put, List.setIfInBounds_toArray, List.set_cons_zero, List.set_cons_succ]
    refine takeT 9 (some 44) (.agg #[sv k, sv n, sv b, sv s]) rfl rfl (by kernel_rfl) (fun _ _ _ h => h) (ans_bdK 168 [(0, .tmp 39), (1, .tmp 41), (2, .tmp 43)] [(0, .agg #[sv k, sv n]), (1, sv b), (2, sv s)] _ rfl (by rfl) rfl (builtOp _ _ _ _)) ?_
    simp only [Act.put, List.setIfInBounds_toArray, List.set_cons_zero, List.set_cons_succ]
    refine takeT 10 (some 45) (.agg #[sv b, sv t]) rfl rfl (by kernel_rfl) (fun _ _ _ h => h) (ans_row 161 (.tmp 6) _ 2 rfl (by rfl) x6 0 rfl [sv b, sv t] (fun u hu => (B6A.out.grows hu).whole) Tryz.underlying161 rfl rfl sizeCt) ?_
    simp only [Act.put, List.setIfInBounds_toArray, List.set_cons_zero, List.set_cons_succ]
    refine lastE (by kernel_rfl) (by kernel_rfl) (by kernel_rfl) (by kernel_rfl) fun u8 hu8 hv8 => ?_
    refine opMsetK 11 93 168 161 (.tmp 38) (.tmp 44) (.tmp 45) rfl rfl rfl rfl keysO Tryz.underlying93 M.m2 g rfl (k, n, b, s) OKO.out rfl (ctv b t) rfl (M2A.out.same (Below.block hv8 _ M2A.out.lt)) fun u9 k29 hgu9 => ?_
    intro uA hgA2
    have kB : Kp (fun j => j = M.m2) wA uA := ((Kp.of_below hv8).trans (Kp.of_grown hgu9)).trans (Kp.of_below hgA2)
    have FIN := HS.out.added (kB.blk BRA.out (M2A.out.notCells BRA.out)) (M1A.out.same (kB.block _ M1A.out.lt HR.out.2.2)) (txt_add HT.out k n b t s ft hfr) (k29.same (Below.block hgA2 _ k29.lt)) (KA.out.trans (kB.mono fun j _ e => Or.inr (Or.inr e))) hn
    clear kB k29 hgu9 hgA2 hu8 hv8 F4 F6 M1A M2A B5A B6A BRA AA KA B97
    go_wp2_with fail
    go_ret
    exact ⟨by rw [HTL.out]; rfl, FIN⟩
  | some e0 =>
    have htk : tk = true := by rw [← HX.out.2]; unfold fstK; rw [hfirst]; rfl
    subst htk
    have HF : Hid (S.first k n = some e0) := hfirst
    have h0 : e0.beside = b0 ∧ e0.text = t0 := by
      have := HX.out.1
      unfold fstK at this
      rw [hfirst] at this
      simp only [Option.map_some, Option.getD_some, ctv, Value.agg.injEq, Array.mk.injEq, List.cons.injEq, and_true] at this
      exact ⟨sv_inj this.1, sv_inj this.2⟩
    have HTL : Hid (S.tells k n b t = !decide (b0 = b ∧ t0 = t)) := by show _ = _; unfold SeaS.tells; rw [hfirst, ← h0.1, ← h0.2]
    clear hfirst h0
    go_wp2_with fail
    have F4 : ∀ u, Grows w7 u → u.cell? ⟨r, 4, none⟩ = some (.map (some M.m2)) := fun u hu => (BR7.out.grows hu).cell 4
    have F6 : ∀ u, Grows w7 u → u.cell? ⟨x6, 0, none⟩ = some (sv b) := fun u hu => (B67.out.grows hu).cell 0
    refine regionE 11 (S := Grows w7) (by kernel_rfl) (Below.refl _ w7).drew ?_
    refine takeT 0 (some 35) (.pointer (some ⟨r, 2, none⟩)) rfl rfl (by kernel_rfl) (fun _ _ _ h => h) (ans_plain (by rfl) (fun w _ => rfl)) ?_
    simp only [Act.put, List.setIfInBounds_toArray, List.set_cons_zero, List.set_cons_succ]
    refine takeT 1 (some 36) (.pointer (some ⟨r, 2, none⟩)) rfl rfl (by kernel_rfl) (fun _ _ _ h => h) (ans_plain (by rfl) (fun w _ => by unfold execOp; go_simp)) ?_
    simp only [Act.put, List.setIfInBounds_toArray, List.set_cons_zero, List.set_cons_succ]
    refine takeT 2 (some 37) (.pointer (some ⟨r, 4, none⟩)) rfl rfl (by kernel_rfl) (fun _ _ _ h => h) (ans_plain (by rfl) (fun w _ => by unfold execOp; go_simp)) ?_
    simp only [Act.put, List.setIfInBounds_toArray, List.set_cons_zero, List.set_cons_succ]
    refine takeT 3 (some 38) (.map (some M.m2)) rfl rfl (by kernel_rfl) (fun _ _ _ h => h) (ans_plain (by rfl) (fun w h => by have hc := F4 w h; unfold execOp; go_simp)) ?_
    simp only [Act.put, List.setIfInBounds_toArray, List.set_cons_zero, List.set_cons_succ]
    refine takeT 4 (some 39) (.agg #[sv k, sv n]) rfl rfl (by kernel_rfl) (fun _ _ _ h => h) (ans_row 159 (.tmp 5) _ 2 rfl (by rfl) x5 0 rfl [sv k, sv n] (fun u hu => (B57.out.grows hu).whole) Tryz.underlying159 rfl rfl sizePl) ?_
    simp only [Act.put, List.setIfInBounds_toArray, List.set_cons_zero, List.set_cons_succ]
    refine takeT 5 (some 40) (.pointer (some ⟨x6, 0, none⟩)) rfl rfl (by kernel_rfl) (fun _ _ _ h => h) (ans_plain (by rfl) (fun w _ => by unfold execOp; go_simp)) ?_
    simp only [Act.put, List.setIfInBounds_toArray, List.set_cons_zero, List.set_cons_succ]
    refine takeT 6 (some 41) (sv b) rfl rfl (by kernel_rfl) (fun _ _ _ h => h) (ans_plain (by rfl) (fun w h => by have hc := F6 w h; unfold execOp; go_simp)) ?_
    simp only [Act.put, List.setIfInBounds_toArray, List.set_cons_zero, List.set_cons_succ]
    refine takeT 7 (some 42) (.slice a m c) rfl rfl (by kernel_rfl) (fun _ _ _ h => h) (ans_plain (by rfl) (fun w _ => rfl)) ?_
    simp only [Act.put, List.setIfInBounds_toArray, List.set_cons_zero, List.set_cons_succ]
    refine takeT 8 (some 43) (sv s) rfl rfl (by kernel_rfl) (fun _ _ _ h => h) (ans_str (.tmp 42) rfl (by rfl) a m c s rfl (fun u hu => A7.out.below hu (Nat.le_refl _))) ?_
    simp only [Act.put, List.setIfInBounds_toArray, List.set_cons_zero, List.set_cons_succ]
    refine takeT 9 (some 44) (.agg #[sv k, sv n, sv b, sv s]) rfl rfl (by kernel_rfl) (fun _ _ _ h => h) (ans_bdK 168 [(0, .tmp 39), (1, .tmp 41), (2, .tmp 43)] [(0, .agg #[sv k, sv n]), (1, sv b), (2, sv s)] _ rfl (by rfl) rfl (builtOp _ _ _ _)) ?_
    simp only [Act.put, List.setIfInBounds_toArray, List.set_cons_zero, List.set_cons_succ]
    refine takeT 10 (some 45) (.agg #[sv b, sv t]) rfl rfl (by kernel_rfl) (fun _ _ _ h => h) (ans_row 161 (.tmp 6) _ 2 rfl (by rfl) x6 0 rfl [sv b, sv t] (fun u hu => (B67.out.grows hu).whole) Tryz.underlying161 rfl rfl sizeCt) ?_
    simp only [Act.put, List.setIfInBounds_toArray, List.set_cons_zero, List.set_cons_succ]
    refine lastE (by kernel_rfl) (by kernel_rfl) (by kernel_rfl) (by kernel_rfl) fun u8 hu8 hv8 => ?_
    refine opMsetK 11 93 168 161 (.tmp 38) (.tmp 44) (.tmp 45) rfl rfl rfl rfl keysO Tryz.underlying93 M.m2 g rfl (k, n, b, s) OKO.out rfl (ctv b t) rfl (M27.out.same (Below.block hv8 _ M27.out.lt)) fun u9 k29 hgu9 => ?_
    intro uA hgA2
    have kB : Kp (fun j => j = M.m2) w7 uA := ((Kp.of_below hv8).trans (Kp.of_grown hgu9)).trans (Kp.of_below hgA2)
    have M1A : Mks kvP okKP w7 M.m1 (fstK (S.add k n b t s)) := by
      rw [fst_add_some HF.out b t s]
      exact M17.out
    have FIN : Hid (Se U uA r (S.add k n b t s) M ∧ Kp U w uA) := HS.out.added (kB.blk BR7.out (M27.out.notCells BR7.out)) (M1A.same (kB.block _ M1A.lt HR.out.2.2)) (txt_add HT.out k n b t s ft hfr) (k29.same (Below.block hgA2 _ k29.lt)) (((K7.out.mono fun j _ e => Or.inl e).trans (kB.mono fun j _ e => Or.inr (Or.inr e)))) hn
    have B9A := kB.blk B97.out (M27.out.notCells B97.out)
    have B6A := kB.blk B67.out (M27.out.notCells B67.out)
    have c90 : uA.cell? ⟨x9, 0, none⟩ = some (sv b0) := B9A.cell 0
    have c91 : uA.cell? ⟨x9, 1, none⟩ = some (sv t0) := B9A.cell 1
    have c60 : uA.cell? ⟨x6, 0, none⟩ = some (sv b) := B6A.cell 0
    have c61 : uA.cell? ⟨x6, 1, none⟩ = some (sv t) := B6A.cell 1
    have l9 := B9A.lt
    have l6 := B6A.lt
    obtain ⟨D1, hD1⟩ : ∃ D, D = decide (b0 = b) := ⟨_, rfl⟩
    obtain ⟨D2, hD2⟩ : ∃ D, D = decide (t0 = t) := ⟨_, rfl⟩
    have E1 : ∀ w, Sem.run Tryz.prog (Op.equalIn 9999 9 (sv b0) (sv b)) w = .ok D1 w := fun w => by rw [hD1]; exact eqStr 9998 b0 b w
    have E2 : ∀ w, Sem.run Tryz.prog (Op.equalIn 9999 9 (sv t0) (sv t)) w = .ok D2 w := fun w => by rw [hD2]; exact eqStr 9998 t0 t w
    have HTL' : Hid (S.tells k n b t = !(D1 && D2)) := by
      show _ = _
      rw [HTL.out, hD1, hD2]
      by_cases x1 : b0 = b <;> by_cases x2 : t0 = t <;> simp [x1, x2]
    clear HTL hD1 hD2
    clear kB k29 hgu9 hgA2 hu8 hv8 F4 F6 M1A M17 M27 B57 B67 BR7 A7 K7 B97 B9A B6A
    cases D1 <;> cases D2 <;> (go_wp2_with fail; go_ret; exact ⟨by rw [HTL'.out]; rfl, FIN.out⟩)

end Go.Proofs.YtlenmkhmkommcaaGreat

/-
  The contract of layer 6's mask: the sealed block of a nonce and a number; and of how many bits a text has, in eight bytes. Conditions: the cipher lies where the pointer leads; a nonce of 12 bytes; a number below 2^32; a text of at most 900 bytes.
-/
namespace Go.Proofs.YtlenmkhmkommcaaGreat
open Go.RowKit

/-- A literal of two slices in memory, in whatever world has grown of the one behind it. -/
theorem bss2 {w w' : World} {a1 a2 : Option Addr} {n1 c1 n2 c2 : Nat} {l1 l2 : List UInt8} (h1 : Bs w a1 n1 c1 l1) (h2 : Bs w a2 n2 c2 l2) (hg : Grows (w.alloc (.cells #[.slice a1 n1 c1, .slice a2 n2 c2] 26)) w') : Bss w' (some ⟨w.heap.size, 0, none⟩) 2 2 [l1, l2] :=
  (Bss.two h1 h2).below hg (Nat.le_refl _)

set_option maxRecDepth 100000 in
set_option maxHeartbeats 2000000 in
theorem oMask (w : World) {r : Nat} {K nonce : List UInt8} {an : Option Addr} {cn : Nat} (hC : Cip w r K) (hK : K.length = 240) (hn : Bs w an 12 cn nonce) (n : Nat) (hN : n < 4294967296) :
    Calls Tryz.prog 150 #[.pointer (some ⟨r, 0, none⟩), .slice an 12 cn, .int .u64 (n : Int)] w fun e w' => e = .returned (bv (ctrK K nonce n)) ∧ Below w.heap.size w w' := by
  have HNL : Hid (nonce.length = 12) := hn.len
  have hrl := hC.tab.lt
  have HPL : Hid ((putL n 4).length = 4) := putL_length 4 n
  have CP : Hid (∀ w, Calls Tryz.prog 86 #[.int .u64 (n : Int), .int .i64 4] w (Gives w (putL n 4))) := fun w => by
    have := oPut (n : Int) 4 w (by omega) (by omega) (by omega) (by omega)
    rw [Int.toNat_natCast] at this
    exact this
  have HX : Hid (ctrK K nonce n = aesL K (nonce ++ putL n 4)) := rfl
  have HXL : Hid ((ctrK K nonce n).length = 16) := ctrK_length hK HNL.out n
  have HBL : Hid ((nonce ++ putL n 4).length = 16) := by show _ = _; rw [List.length_append, HNL.out, HPL.out]
  generalize ctrK K nonce n = X at *
  generalize putL n 4 = P at *
  go_enter Tryz.func150, Tryz.ntmps150
  go_wp2_with fail
  obtain ⟨W, hW⟩ : ∃ W, W = (w.alloc (.cells z16 204)).alloc (.cells z16 204) := ⟨_, rfl⟩
  rw [← hW]
  have d0 : Blk W w.heap.size (cs (List.replicate 16 0)) 204 := by rw [hW]; exact (Blk.new w _ _).old _
  have d1 : Blk W (w.heap.size + 1) (cs (List.replicate 16 0)) 204 := by rw [hW]; exact Blk.newAt (w.alloc _) z16 _ _ (by simp) _ rfl
  have q0 : Below w.heap.size w W := by rw [hW]; exact below2 w _ _
  have hC0 := hC.below q0 hrl
  have hn0 := hn.below q0 (Nat.le_refl _)
  clear hW
  refine regionG (S := fun _ => True) (by kernel_rfl) trivial ?_
  refine takeG 0 (some 8) (.slice (some ⟨w.heap.size + 1, 0, none⟩) 16 16) rfl rfl (by kernel_rfl) (by kernel_rfl) (by kernel_rfl) (fun _ _ _ h => h) (ans_all (.tmp 7) rfl (by rfl) (w.heap.size + 1) rfl) ?_
  simp only [Act.put, List.setIfInBounds_toArray, List.set_cons_zero, List.set_cons_succ]
  refine takeG 1 (some 9) (.slice an 12 cn) rfl rfl (by kernel_rfl) (by kernel_rfl) (by kernel_rfl) (fun _ _ _ h => h) (ans_plain (by rfl) (fun w _ => rfl)) ?_
  simp only [Act.put, List.setIfInBounds_toArray, List.set_cons_zero, List.set_cons_succ]
  refine takeG 2 (some 10) (.int .u64 (n : Int)) rfl rfl (by kernel_rfl) (by kernel_rfl) (by kernel_rfl) (fun _ _ _ h => h) (ans_plain (by rfl) (fun w _ => rfl)) ?_
  simp only [Act.put, List.setIfInBounds_toArray, List.set_cons_zero, List.set_cons_succ]
  refine callG 3 (some 11) 86 #[.tmp 10, .const (.int .i64 4)] #[52, 3] #[.int .u64 (n : Int), .int .i64 4] rfl rfl rfl (by rfl) (by rfl) (by kernel_rfl) Tryz.call86 fun u1 hg1 _ => ?_
  have g1 : Grows W u1 := Grows.trans (Below.refl _ W).drew hg1
  refine (CP.out u1).mono ?_
  rintro e u2 ⟨p2, m2, x2, rfl, ho2, hG2⟩
  have g2 : Grows W u2 := Grows.trans g1 hG2
  refine ⟨_, rfl, trivial, ?_⟩
  simp only [Act.put, List.setIfInBounds_toArray, List.set_cons_zero, List.set_cons_succ]
  refine oneG 4 (by kernel_rfl) fun u3 hg3 _ => ?_
  have g3 : Grows W u3 := Grows.trans g2 hg3
  refine opBS2 (some 12) rfl rfl rfl (.tmp 9) (.tmp 11) rfl an p2 12 cn m2 x2 rfl rfl ?_
  refine ⟨trivial, ?_⟩
  simp only [Act.put, List.setIfInBounds_toArray, List.set_cons_zero, List.set_cons_succ]
  refine callG 5 (some 13) 67 #[.tmp 12] #[147] #[.slice (some ⟨u3.heap.size, 0, none⟩) 2 2] rfl rfl rfl (by rfl) (by rfl) (by kernel_rfl) Tryz.call67 fun u4 hg4 _ => ?_
  have g4 : Grows W u4 := Grows.trans g3 (Grows.trans (Grows.alloc _ _) hg4)
  refine (oJoinB u4 (bss2 (hn0.grows g3) (ho2.toBs.grows hg3) hg4) (by rw [HNL.out, HPL.out]; omega)).mono ?_
  rintro e u5 ⟨p5, m5, x5, rfl, ho5, hG5⟩
  have g5 : Grows W u5 := Grows.trans g4 hG5
  have hm5 : m5 = 16 := by rw [← ho5.toBs.len]; exact HBL.out
  subst hm5
  refine ⟨_, rfl, trivial, ?_⟩
  simp only [Act.put, List.setIfInBounds_toArray, List.set_cons_zero, List.set_cons_succ]
  refine oneG 6 (by kernel_rfl) fun u6 hg6 _ => ?_
  have g6 : Grows W u6 := Grows.trans g5 hg6
  have d6 := d1.grows g6
  refine opCp (some 14) rfl rfl rfl (.tmp 8) (.tmp 13) rfl (w.heap.size + 1) 0 16 16 rfl p5 16 x5 rfl _ (ho5.toBs.grows hg6) _ _ d6 16 rfl (by rw [cs_length]; simp) (by omega) fun u7 hc7 => ⟨trivial, ?_⟩
  simp only [Act.put, List.setIfInBounds_toArray, List.set_cons_zero, List.set_cons_succ]
  have e7 : Blk u7 (w.heap.size + 1) (cs (nonce ++ P)) 204 := by
    have := hc7.blk
    rw [List.take_zero, List.nil_append, List.take_of_length_le (by rw [HBL.out]; omega), List.drop_eq_nil_of_le (by rw [cs_length]; simp), List.append_nil] at this
    exact this
  have d7 := hc7.other (d0.grows g6) (by omega)
  have q7 : Below w.heap.size w u7 := hc7.below (q0.trans (Below.mono g6 q0.size)) (by omega) (Nat.le_trans q0.size (Below.size g6))
  have C7 := hC.below q7 hrl
  clear hc7
  refine doneG (by kernel_rfl) fun u8 hg8 _ => ?_
  have e8 := e7.grows hg8
  have d8 := d7.grows hg8
  have q8 : Below w.heap.size w u8 := q7.trans (Below.mono hg8 q7.size)
  have C8 := C7.below hg8 (Nat.lt_of_lt_of_le hrl q7.size)
  generalize nonce ++ P = B at *
  clear e7 d7 q7 C7 g6 g5 g4 g3 g2 g1 hG5 hG2 hg1 hg3 hg4 hg6 hg8 d6
  go_wp2_with fail
  refine regionG (S := fun x => Blk x (w.heap.size + 1) (cs B) 204 ∧ Cip x r K) (by kernel_rfl) ⟨e8.dr, C8.dr⟩ ?_
  refine takeG 0 (some 15) (.pointer (some ⟨r, 0, none⟩)) rfl rfl (by kernel_rfl) (by kernel_rfl) (by kernel_rfl) (fun _ _ _ h => h) (ans_plain (by rfl) (fun w _ => rfl)) ?_
  simp only [Act.put, List.setIfInBounds_toArray, List.set_cons_zero, List.set_cons_succ]
  refine takeG 1 (some 16) (.pointer (some ⟨r, 0, none⟩)) rfl rfl (by kernel_rfl) (by kernel_rfl) (by kernel_rfl) (fun _ _ _ h => h) (ans_plain (by rfl) (fun w _ => rfl)) ?_
  simp only [Act.put, List.setIfInBounds_toArray, List.set_cons_zero, List.set_cons_succ]
  refine takeG 2 (some 17) (.pointer (some ⟨r, 0, none⟩)) rfl rfl (by kernel_rfl) (by kernel_rfl) (by kernel_rfl) (fun _ _ _ h => h) (ans_plain (by rfl) (fun w _ => by unfold execOp; go_simp)) ?_
  simp only [Act.put, List.setIfInBounds_toArray, List.set_cons_zero, List.set_cons_succ]
  refine takeG 3 (some 18) (bv B) rfl rfl (by kernel_rfl) (by kernel_rfl) (by kernel_rfl) (fun _ _ _ h => h) (ans_ld16 (.tmp 7) rfl (by rfl) (w.heap.size + 1) B HBL.out rfl (fun w h => h.1)) ?_
  simp only [Act.put, List.setIfInBounds_toArray, List.set_cons_zero, List.set_cons_succ]
  refine takeG 4 (some 19) (bv X) rfl rfl (by kernel_rfl) (by kernel_rfl) (by kernel_rfl) (fun _ _ _ h => h) (ans_call 132 #[.tmp 17, .tmp 18] #[209, 204] #[.pointer (some ⟨r, 0, none⟩), bv B] rfl (by rfl) (by rfl) Tryz.call132 fun u h => (oBlock u r K h.2 hK B HBL.out).mono fun _ _ hh => ⟨by rw [HX.out]; exact hh.1, hh.2, h.1.grows hh.2, h.2.below hh.2 h.2.tab.lt⟩) ?_
  simp only [Act.put, List.setIfInBounds_toArray, List.set_cons_zero, List.set_cons_succ]
  refine oneG 5 (by kernel_rfl) fun u9 hg9 hs9 => ?_
  have g9 : Grows u8 u9 := Grows.trans (Below.refl _ u8).drew hg9
  have d9 := d8.grows g9
  refine opSt16 5 (.tmp 6) (.tmp 19) rfl rfl rfl rfl w.heap.size X HXL.out _ (by rw [cs_length]; rfl) d9 rfl rfl fun ua ba oa la => ?_
  have qa : Below w.heap.size w ua := la _ _ (Nat.le_refl _) (q8.trans (Below.mono g9 q8.size))
  refine ⟨⟨oa _ _ _ (by omega) hs9.1, hC.below qa hrl⟩, ?_⟩
  refine doneG (by kernel_rfl) fun ub hgb hsb => ?_
  have bb := ba.grows hgb
  have B2 : Hid (Blk ub w.heap.size (cs X) 204) := bb
  have HC : Hid ((cs X).length = 16) := by show _ = _; rw [cs_length, HXL.out]
  have qb : Below w.heap.size w ub := qa.trans (Below.mono hgb qa.size)
  clear bb
  go_wp2_with fail
  exact bodyPost_ret (v := bv X) (res_blk Tryz.results150 _ _ w.heap.size _ _ _ rfl B2.out Tryz.underlying204 16 HC.out sizeK) rfl ⟨rfl, qb⟩

set_option maxHeartbeats 1000000 in
theorem oBitsT (w : World) {a : Option Addr} {n c : Nat} (hz : n ≤ 900) : Calls Tryz.prog 152 #[.slice a n c] w (Gives w (putL (8 * n) 8)) := by
  have CP : Hid (∀ w, Calls Tryz.prog 86 #[.int .u64 (8 * (n : Int)), .int .i64 8] w (Gives w (putL (8 * n) 8))) := fun w => by
    have := oPut ((8 * n : Nat) : Int) 8 w (by omega) (by omega) (by omega) (by omega)
    rw [Int.toNat_natCast, show ((8 * n : Nat) : Int) = 8 * (n : Int) from by omega] at this
    exact this
  have i1 : IntKind.u64.wrap (n : Int) = (n : Int) := by rw [IntKind.wrap_u64]; omega
  have i3 : (n : Int) % 18446744073709551616 = (n : Int) := by omega
  have i5 : IntKind.u64.wrap (8 * (n : Int)) = 8 * (n : Int) := by rw [IntKind.wrap_u64]; omega
  have i7 : 8 * (n : Int) % 18446744073709551616 = 8 * (n : Int) := by omega
  generalize putL (8 * n) 8 = X at *
  go_enter Tryz.func152, Tryz.ntmps152
  go_wp2_with fail
  refine (CP.out w).mono ?_
  rintro e w2 ⟨a2, m2, c2, rfl, ho2, hb2⟩
  go_wp2
  go_ret
  exact Gives.mk ho2 hb2

end Go.Proofs.YtlenmkhmkommcaaGreat

/-
  A table in memory: sixteen elements. The contract of Build. No condition.
-/
namespace Go.Proofs.YtlenmkhmkommcaaGreat
open Go.RowKit

/-- Block g holds sixteen elements, the i-th one f i. -/
def Tb (w : World) (g : Nat) (f : Nat → Fe) : Prop :=
  ∃ vs : List Value, Blk w g vs 214 ∧ vs.length = 32 ∧ ∀ i, i < 16 → vs[i * 2]? = some (.int .u64 (hN (f i) : Int)) ∧ vs[i * 2 + 1]? = some (.int .u64 (lN (f i) : Int))
theorem Tb.lt {w : World} {g : Nat} {f : Nat → Fe} (h : Tb w g f) : g < w.heap.size := h.choose_spec.1.lt
theorem Tb.hi {w : World} {g : Nat} {f : Nat → Fe} (h : Tb w g f) {i : Nat} (hi : i < 16) : w.cell? ⟨g, i * 2, none⟩ = some (.int .u64 (hN (f i) : Int)) := by
  obtain ⟨vs, hb, _, hc⟩ := h
  rw [hb.cell, (hc i hi).1]
theorem Tb.lo {w : World} {g : Nat} {f : Nat → Fe} (h : Tb w g f) {i : Nat} (hi : i < 16) : w.cell? ⟨g, i * 2 + 1, none⟩ = some (.int .u64 (lN (f i) : Int)) := by
  obtain ⟨vs, hb, _, hc⟩ := h
  rw [hb.cell, (hc i hi).2]
theorem Tb.free {w : World} {g : Nat} {f : Nat → Fe} (h : Tb w g f) (i : Nat) : w.frozen? ⟨g, i, none⟩ = false := by
  obtain ⟨vs, hb, _, _⟩ := h
  exact hb.free i
theorem Tb.below {w w' : World} {g : Nat} {f : Nat → Fe} (h : Tb w g f) {B : Nat} (hb : Below B w w') (hB : g < B) : Tb w' g f := by
  obtain ⟨vs, h1, h2⟩ := h
  exact ⟨vs, h1.below hb hB, h2⟩
theorem Tb.dr {w : World} {g : Nat} {f : Nat → Fe} (h : Tb w g f) : Tb w.drew g f := h
theorem Tb.setO {w : World} {g : Nat} {f : Nat → Fe} (h : Tb w g f) {p : Addr} (hp : g ≠ p.block) (u : Value) : Tb (w.setCell p u) g f := by
  obtain ⟨vs, h1, h2⟩ := h
  exact ⟨vs, h1.setO hp u, h2⟩
theorem Tb.congr {w : World} {g : Nat} {f f' : Nat → Fe} (h : Tb w g f) (e : ∀ i, i < 16 → f i = f' i) : Tb w g f' := by
  obtain ⟨vs, h1, h2, h3⟩ := h
  exact ⟨vs, h1, h2, fun i hi => by rw [← e i hi]; exact h3 i hi⟩
theorem Tb.set {w : World} {g : Nat} {f : Nat → Fe} (h : Tb w g f) {k : Nat} (hk : k < 16) (a : Fe) :
    Tb ((w.setCell ⟨g, k * 2, none⟩ (.int .u64 (hN a : Int))).setCell ⟨g, k * 2 + 1, none⟩ (.int .u64 (lN a : Int))) g (fun i => if i = k then a else f i) := by
  obtain ⟨vs, h1, h2, h3⟩ := h
  refine ⟨_, (h1.setC (k * 2) _).setC (k * 2 + 1) _, by simpa using h2, fun i hi => ?_⟩
  by_cases e : i = k
  · subst e
    simp only [if_true]
    constructor
    · rw [List.getElem?_set_ne (by omega), List.getElem?_set_self (by omega)]
    · rw [List.getElem?_set_self (by simp; omega)]
  · simp only [if_neg e]
    rw [List.getElem?_set_ne (by omega), List.getElem?_set_ne (by omega), List.getElem?_set_ne (by omega), List.getElem?_set_ne (by omega)]
    exact h3 i hi

/-- The places that the first loop fills, behind k rounds. -/
def isP (k i : Nat) : Bool := (i == 8 && decide (0 < k)) || (i == 4 && decide (1 < k)) || (i == 2 && decide (2 < k)) || (i == 1 && decide (3 < k))
def f1 (h : Fe) (k i : Nat) : Fe := if isP k i then pr h i else 0
def f2 (h : Fe) (k i : Nat) : Fe := if decide (i < k) || isP 4 i then pr h i else 0
theorem pr_0 (h : Fe) : pr h 0 = 0 := by simp [pr]
theorem pr_1 (h : Fe) : pr h 1 = txN h 3 := by unfold pr; rw [show Nat.testBit 1 3 = false from by decide, show Nat.testBit 1 2 = false from by decide, show Nat.testBit 1 1 = false from by decide, show Nat.testBit 1 0 = true from by decide]; simp
theorem pr_2 (h : Fe) : pr h 2 = txN h 2 := by unfold pr; rw [show Nat.testBit 2 3 = false from by decide, show Nat.testBit 2 2 = false from by decide, show Nat.testBit 2 1 = true from by decide, show Nat.testBit 2 0 = false from by decide]; simp
theorem pr_4 (h : Fe) : pr h 4 = txN h 1 := by unfold pr; rw [show Nat.testBit 4 3 = false from by decide, show Nat.testBit 4 2 = true from by decide, show Nat.testBit 4 1 = false from by decide, show Nat.testBit 4 0 = false from by decide]; simp
theorem pr_8 (h : Fe) : pr h 8 = h := by unfold pr; rw [show Nat.testBit 8 3 = true from by decide, show Nat.testBit 8 2 = false from by decide, show Nat.testBit 8 1 = false from by decide, show Nat.testBit 8 0 = false from by decide]; simp
theorem pr_add (h : Fe) {a b : Nat} (ha : a < 16) (hb : b < 16) (hab : a ^^^ b < 16) : pr h a ^^^ pr h b = pr h (a ^^^ b) := by
  have := pr_xor h a b 0
  rw [Nat.pow_zero, Nat.div_one, Nat.div_one, Nat.div_one, Nat.mod_eq_of_lt ha, Nat.mod_eq_of_lt hb, Nat.mod_eq_of_lt hab] at this
  exact this.symm
theorem isP_step {k : Nat} (hk : k < 4) {i : Nat} (hi : i < 16) : isP (k + 1) i = (decide (i = 8 / 2 ^ k) || isP k i) := by
  have : ∀ k : Fin 4, ∀ i : Fin 16, isP (k.val + 1) i.val = (decide (i.val = 8 / 2 ^ k.val) || isP k.val i.val) := by decide +kernel
  exact this ⟨k, hk⟩ ⟨i, hi⟩
theorem pr_pow (h : Fe) {k : Nat} (hk : k < 4) : pr h (8 / 2 ^ k) = txN h k := by
  rcases (by omega : k = 0 ∨ k = 1 ∨ k = 2 ∨ k = 3) with rfl | rfl | rfl | rfl
  · exact pr_8 h
  · exact pr_4 h
  · exact pr_2 h
  · exact pr_1 h
theorem f1_step (h : Fe) {k : Nat} (hk : k < 4) {i : Nat} (hi : i < 16) : (if i = 8 / 2 ^ k then txN h k else f1 h k i) = f1 h (k + 1) i := by
  unfold f1
  rw [isP_step hk hi]
  by_cases e : i = 8 / 2 ^ k
  · rw [if_pos e, decide_eq_true e, Bool.true_or, if_pos rfl, e, pr_pow h hk]
  · rw [if_neg e, decide_eq_false e, Bool.false_or]
theorem f12 (h : Fe) {i : Nat} : f1 h 4 i = f2 h 1 i := by
  unfold f1 f2
  by_cases e : i = 0
  · subst e
    rw [pr_0]
    simp
  · rw [show decide (i < 1) = false from by simp; omega, Bool.false_or]
theorem f2_step (h : Fe) {k : Nat} {i : Nat} : (if i = k then pr h k else f2 h k i) = f2 h (k + 1) i := by
  unfold f2
  by_cases e : i = k
  · subst e
    rw [if_pos rfl, show decide (i < i + 1) = true from by simp, Bool.true_or, if_pos rfl]
  · rw [if_neg e]
    have : decide (i < k + 1) = decide (i < k) := by
      by_cases hl : i < k
      · rw [decide_eq_true hl, decide_eq_true (by omega)]
      · rw [decide_eq_false hl, decide_eq_false (by omega)]
    rw [this]
theorem f2_end (h : Fe) {i : Nat} (hi : i < 16) : f2 h 16 i = pr h i := by
  unfold f2
  rw [decide_eq_true hi, Bool.true_or, if_pos rfl]
theorem f2_low (h : Fe) {k i : Nat} (hi : i < k) : f2 h k i = pr h i := by
  unfold f2
  rw [decide_eq_true hi, Bool.true_or, if_pos rfl]
theorem f2_pow (h : Fe) {k i : Nat} (hi : isP 4 i = true) : f2 h k i = pr h i := by
  unfold f2
  rw [hi, Bool.or_true, if_pos rfl]
/-- The last bit of a number. -/
def lastB (k : Nat) : Nat := if k % 2 = 1 then 1 else if k % 4 = 2 then 2 else if k % 8 = 4 then 4 else 8
theorem last_ok {k : Nat} (h1 : 1 ≤ k) (h2 : k < 16) : bits .and .i64 (k : Int) (-(k : Int)) = (lastB k : Int) ∧ 0 < lastB k ∧ lastB k ≤ k ∧ isP 4 (lastB k) = true ∧ (k - lastB k) ^^^ lastB k = k := by
  have : ∀ k : Fin 16, 1 ≤ k.val → bits .and .i64 (k.val : Int) (-(k.val : Int)) = (lastB k.val : Int) ∧ 0 < lastB k.val ∧ lastB k.val ≤ k.val ∧ isP 4 (lastB k.val) = true ∧ (k.val - lastB k.val) ^^^ lastB k.val = k.val := by decide +kernel
  exact this ⟨k, h2⟩ h1

abbrev z32 : Array Value := #[.int .u64 0, .int .u64 0, .int .u64 0, .int .u64 0, .int .u64 0, .int .u64 0, .int .u64 0, .int .u64 0, .int .u64 0, .int .u64 0, .int .u64 0, .int .u64 0, .int .u64 0, .int .u64 0, .int .u64 0, .int .u64 0, .int .u64 0, .int .u64 0, .int .u64 0, .int .u64 0, .int .u64 0, .int .u64 0, .int .u64 0, .int .u64 0, .int .u64 0, .int .u64 0, .int .u64 0, .int .u64 0, .int .u64 0, .int .u64 0, .int .u64 0, .int .u64 0]
theorem f1_zero (h : Fe) (i : Nat) (hi : i < 16) : z32.toList[i * 2]? = some (.int .u64 (hN (f1 h 0 i) : Int)) ∧ z32.toList[i * 2 + 1]? = some (.int .u64 (lN (f1 h 0 i) : Int)) := by
  have e : f1 h 0 i = 0 := by unfold f1 isP; simp
  obtain ⟨z1, z2⟩ := (zero_iff 0).1 rfl
  rw [e, z1, z2]
  rw [show z32.toList = List.replicate 32 (.int .u64 0) from rfl, List.getElem?_replicate, List.getElem?_replicate, if_pos (by omega), if_pos (by omega)]
  exact ⟨rfl, rfl⟩
set_option maxRecDepth 100000 in
set_option maxHeartbeats 2000000 in
theorem oBuildF (w : World) (h : Fe) : Calls Tryz.prog 133 #[ev h] w fun e w' => ∃ g, e = .returned (.pointer (some ⟨g, 0, none⟩)) ∧ w.heap.size ≤ g ∧ Tb w' g (pr h) ∧ Below w.heap.size w w' := by
  have C1 : Hid (∀ w a, Calls Tryz.prog 148 #[.agg #[.int .u64 (hN a : Int), .int .u64 (lN a : Int)], .int .i64 1] w fun e w' => e = .returned (.agg #[.int .u64 (hN (tx a) : Int), .int .u64 (lN (tx a) : Int)]) ∧ Below w.heap.size w w') := fun w a => oRaise1 w a
  have C2 : Hid (∀ w a b, Calls Tryz.prog 149 #[.agg #[.int .u64 (hN a : Int), .int .u64 (lN a : Int)], .agg #[.int .u64 (hN b : Int), .int .u64 (lN b : Int)]] w fun e w' => e = .returned (.agg #[.int .u64 (hN (a ^^^ b) : Int), .int .u64 (lN (a ^^^ b) : Int)]) ∧ Below w.heap.size w w') := fun w a b => oAddE w a b
  unfold ev
  go_enter Tryz.func133, Tryz.ntmps133
  go_wp2_with fail
  obtain ⟨W, hW⟩ : ∃ W, W = (w.alloc (.cells #[.int .u64 (hN h : Int), .int .u64 (lN h : Int)] 211)).alloc (.cells z32 214) := ⟨_, rfl⟩
  rw [← hW]
  have b0 : Blk W w.heap.size (ec h) 211 := by rw [hW]; exact (Blk.new w _ _).old _
  have b1 : Tb W (w.heap.size + 1) (f1 h 0) := by rw [hW]; exact ⟨z32.toList, Blk.newAt (w.alloc _) z32 _ _ (by simp) _ rfl, rfl, f1_zero h⟩
  have hb0 : Below w.heap.size w W := by rw [hW]; exact below2 w _ _
  clear hW
  go_loopw [4] (fun i wr => ∃ k m : Nat, k ≤ 4 ∧ m = 8 / 2 ^ k ∧ i = .int .i64 m ∧ Blk wr w.heap.size (ec (txN h k)) 211 ∧ Tb wr (w.heap.size + 1) (f1 h k) ∧ Below w.heap.size w wr) (fun i _ => (intOf i).toNat)
  case atStart => exact ⟨0, 8, by omega, rfl, rfl, b0, b1, hb0⟩
  case round =>
    clear b0 b1 hb0
    obtain ⟨k, m, hk, hm, rfl, b0, b1, hb0⟩ := hrel
    by_cases hlt : k < 4
    · obtain ⟨m0, m16, hm'⟩ : 0 < m ∧ m < 16 ∧ m / 2 = 8 / 2 ^ (k + 1) := by
        rcases (by omega : k = 0 ∨ k = 1 ∨ k = 2 ∨ k = 3) with rfl | rfl | rfl | rfl <;> (subst hm; decide)
      have HM : Hid (m / 2 = 8 / 2 ^ (k + 1)) := hm'
      have HS := b1.set m16 (txN h k)
      have HT := HS.congr (f' := f1 h (k + 1)) (fun i hi => by rw [hm]; exact f1_step h hlt hi)
      have i0 : (0 : Int) < (m : Int) := by omega
      have i1 : (m : Int) < 16 := by omega
      have i2 : (m : Int).tdiv 2 = ((m / 2 : Nat) : Int) := by rw [Int.tdiv_eq_ediv_of_nonneg (by omega)]; omega
      have i3 : (m : Int) / 2 = ((m / 2 : Nat) : Int) := by omega
      have i5 : IntKind.i64.wrap ((m : Int).tdiv 2) = ((m / 2 : Nat) : Int) := by rw [i2, IntKind.wrap_i64]; omega
      obtain ⟨m2, hm2⟩ : ∃ m2, m2 = m / 2 := ⟨_, rfl⟩
      rw [← hm2] at i2 i3 i5 HM
      have HM2 : Hid (m2 = m / 2) := hm2
      clear hm2
      have i4 : (0 : Int) ≤ (m : Int) := by omega
      have c0 := b0.cell 0
      have c1 := b0.cell 1
      simp only [ec, List.getElem?_cons_zero, List.getElem?_cons_succ] at c0 c1
      have t0 := b1.hi m16
      have t1 := b1.lo m16
      have t2 := b1.free (m * 2)
      have t3 := b1.free (m * 2 + 1)
      obtain ⟨w1, hw1⟩ : ∃ w1, w1 = ((wr.setCell ⟨w.heap.size + 1, m * 2, none⟩ (.int .u64 (hN (txN h k) : Int))).setCell ⟨w.heap.size + 1, m * 2 + 1, none⟩ (.int .u64 (lN (txN h k) : Int))).drew := ⟨_, rfl⟩
      have HT' : Hid (Tb w1 (w.heap.size + 1) (f1 h (k + 1))) := by rw [hw1]; exact HT
      have d0 : Blk w1 w.heap.size (ec (txN h k)) 211 := by rw [hw1]; exact (b0.setO (by simp) _).setO (by simp) _
      have q1 : Below w.heap.size w w1 := by rw [hw1]; exact ((hb0.setCell (by simp) _).setCell (by simp) _).drew
      have HW : Hid (w1 = _) := hw1
      clear HS HT hm hm' hw1
      go_wp2_with fail
      go_region
      rw [← HW.out]
      have e0 := d0.cell 0
      have e1 := d0.cell 1
      have e2 := d0.free 0
      have e3 := d0.free 1
      simp only [ec, List.getElem?_cons_zero, List.getElem?_cons_succ] at e0 e1
      have hl := d0.lt
      clear c0 c1 t0 t1 t2 t3 b0 b1 hb0 HW
      go_wp2_with (go_at_call 148; go_must (refine (C1.out w1 (txN h k)).mono ?_); rintro e w2 ⟨rfl, hb2⟩; have d2 := d0.below hb2 hl; have c0 := d2.cell 0; have c1 := d2.cell 1; have c2 := d2.free 0; have c3 := d2.free 1; simp only [ec, List.getElem?_cons_zero, List.getElem?_cons_succ] at c0 c1)
      go_roundw
      case rel =>
        have d3 := (d2.setC 0 (.int .u64 (hN (tx (txN h k)) : Int))).setC 1 (.int .u64 (lN (tx (txN h k)) : Int))
        exact ⟨k + 1, m2, by omega, HM.out, rfl, d3, ((HT'.out.below hb2 HT'.out.lt).setO (by simp) _).setO (by simp) _, ((q1.trans (hb2.mono q1.size)).setCell (Nat.le_refl _) _).setCell (Nat.le_refl _) _⟩
      case measure => have := HM2.out; simp [intOf]; omega
    · obtain rfl : k = 4 := by omega
      have hm0 : m = 0 := by rw [hm]
      subst hm0
      have b2 := b1.congr (f' := f2 h 1) (fun i _ => f12 h)
      clear b1 hm
      go_wp2_with fail
      go_loopw [5, 6] (fun i _ wr => ∃ k : Nat, 1 ≤ k ∧ k ≤ 16 ∧ i = .int .i64 k ∧ Tb wr (w.heap.size + 1) (f2 h k) ∧ Below w.heap.size w wr) (fun i _ _ => 16 - (intOf i).toNat)
      case atStart => exact ⟨1, by omega, by omega, rfl, b2, hb0⟩
      case round =>
        clear b2 hb0 b0
        obtain ⟨k, hk1, hk2, rfl, b1, hb0⟩ := hrel
        by_cases hlt : k < 16
        · obtain ⟨hand, hl0, hlk, hlp, hlx⟩ := last_ok hk1 hlt
          generalize lastB k = z at *
          have HX : Hid (pr h (k - z) ^^^ pr h z = pr h k) := by
            show _ = _
            rw [pr_add h (by omega) (by omega) (by rw [hlx]; exact hlt), hlx]
          have HA : Hid (f2 h k (k - z) = pr h (k - z)) := f2_low h (by omega)
          have HZ : Hid (f2 h k z = pr h z) := f2_pow h hlp
          have p0 : (0 : Int) ≤ (k : Int) := by omega
          have p1 : (k : Int) < 16 := by omega
          have p2 : (0 : Int) ≤ (z : Int) := by omega
          have p3 : (z : Int) < 16 := by omega
          obtain ⟨y, hy⟩ : ∃ y, y = k - z := ⟨_, rfl⟩
          have p4 : (k : Int) - (z : Int) = (y : Int) := by omega
          have p5 : (0 : Int) ≤ (y : Int) := by omega
          have p6 : (y : Int) < 16 := by omega
          rw [← hy] at HX HA
          have p7 : IntKind.i64.wrap (y : Int) = (y : Int) := by rw [IntKind.wrap_i64]; omega
          have t0 := b1.hi (i := y) (by omega)
          have t1 := b1.lo (i := y) (by omega)
          rw [HA.out] at t0 t1
          have s0 := b1.hi (i := z) (by omega)
          have s1 := b1.lo (i := z) (by omega)
          rw [HZ.out] at s0 s1
          have r0 := b1.hi hlt
          have r1 := b1.lo hlt
          have r2 := b1.free (k * 2)
          have r3 := b1.free (k * 2 + 1)
          have hgl := b1.lt
          have HA' : Hid (f2 h (k + 1) y = pr h y) := f2_low h (by omega)
          have HZ' : Hid (f2 h (k + 1) z = pr h z) := f2_pow h hlp
          clear hlp hlx hy
          go_wp2_with fail
          go_region_held3 (fun w' => w'.cell? ⟨w.heap.size + 1, y * 2, none⟩ = some (.int .u64 (hN (pr h y) : Int)) ∧ w'.cell? ⟨w.heap.size + 1, y * 2 + 1, none⟩ = some (.int .u64 (lN (pr h y) : Int)) ∧ w'.cell? ⟨w.heap.size + 1, z * 2, none⟩ = some (.int .u64 (hN (pr h z) : Int)) ∧ w'.cell? ⟨w.heap.size + 1, z * 2 + 1, none⟩ = some (.int .u64 (lN (pr h z) : Int)))
            (first | (exact ⟨v0, v1, v2, v3⟩) | (exact ⟨u0, u1, u2, u3⟩) | (exact ⟨t0, t1, s0, s1⟩) | go_keep)
            ((go_at_call 149; go_must (refine (C2.out wr.drew (pr h y) (pr h z)).mono ?_); rw [HX.out]; rintro e w2 ⟨rfl, hb2⟩; have b2 := b1.dr.below hb2 hgl; have r0 := b2.hi hlt; have r1 := b2.lo hlt; have r2 := b2.free (k * 2); have r3 := b2.free (k * 2 + 1); have b3 := (b2.set hlt (pr h k)).congr (f' := f2 h (k + 1)) (fun i _ => f2_step h); have u0 := b2.hi (i := y) (by omega); have u1 := b2.lo (i := y) (by omega); have u2 := b2.hi (i := z) (by omega); have u3 := b2.lo (i := z) (by omega); rw [HA.out] at u0 u1; rw [HZ.out] at u2 u3; have v0 := b3.hi (i := y) (by omega); have v1 := b3.lo (i := y) (by omega); have v2 := b3.hi (i := z) (by omega); have v3 := b3.lo (i := z) (by omega); rw [HA'.out] at v0 v1; rw [HZ'.out] at v2 v3))
          go_wp2_with fail
          go_roundw
          case rel =>
            (repeat apply Exists.intro)
            refine ⟨?_, rfl⟩
            exact ⟨k + 1, by omega, by omega, by go_num, b3, ((hb0.drew.trans (hb2.mono hb0.size)).setCell (by simp) _).setCell (by simp) _⟩
          case measure => simp [intOf]; omega
        · obtain rfl : k = 16 := by omega
          go_wp2_with fail
          go_ret
          exact ⟨w.heap.size + 1, rfl, by omega, b1.congr fun i hi => f2_end h hi, hb0⟩

end Go.Proofs.YtlenmkhmkommcaaGreat
