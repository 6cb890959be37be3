/-
  8 texts in one. No statement of the seat is proved here.
-/
import Derived.Test.YtfdilgnlfademaaG17

/-
  Plain mathematics of layer 9: how much an act may grow a disk. No condition; nothing of the program.
-/
namespace Go.Proofs.Ytfdilgnlfademaa
open Go.RowKit

def OpS.block (o : OpS) : List UInt8 := if o.n.tmod 9 = 4 then (like o.c).tail else like o.c
def DskS.act (D : DskS) (o : OpS) : DskS :=
  if o.kind = 0 then (D.read o.at_).1 else if o.kind = 1 then (D.write o.at_ o.block).1 else if o.kind = 2 then D.flushed else if o.kind = 3 then D.poke o.x
  else if o.kind = 4 then { D with p := D.p.set o.n o.done } else if o.kind = 5 then { D.crash o.keep with p := D.p.back } else D
theorem DskS.fit.a_mono {D : DskS} {m n : Nat} (h : D.fit m) (hm : m ≤ n) : D.fit n :=
  ⟨PowS.fit_mono h.p hm, h.n, by have := h.safe; omega, by have := h.loose; omega, by have := h.seen; omega, h.plot, by have := h.steps; omega⟩
theorem DskS.fit_new {n : Int} (hn : 1 ≤ n ∧ n ≤ 4096) : (DskS.new PowS.new n).fit 0 := ⟨PowS.fit_new, hn, Nat.le_refl _, Nat.le_refl _, Nat.le_refl _, Nat.zero_le _, Nat.le_refl _⟩
theorem DskS.fit.a_tick {D : DskS} {m : Nat} (h : D.fit m) : D.tick.fit (m + 1) := by
  obtain ⟨a1, a2, a3, a4, a5⟩ := tick_len D
  have h1 := h.safe
  have h2 := h.loose
  have h3 := h.seen
  have h4 := h.plot
  have h5 := h.steps
  refine ⟨PowS.fit_next h.p, by rw [a3]; exact h.n, by omega, by omega, by rw [a4]; omega, by rw [a5]; exact h4, ?_⟩
  show (if D.p.down then D.steps else D.steps + 1) ≤ m + 1
  split <;> omega
theorem DskS.fit.a_see {D : DskS} {m : Nat} (h : D.fit m) (t : Tch) : (D.see t).fit (m + 1) :=
  ⟨PowS.fit_mono h.p (by omega), h.n, by have := h.safe; show D.safe.length ≤ _; omega, by have := h.loose; show D.loose.length ≤ _; omega, by have := h.seen; show (D.seen ++ [t]).length ≤ _; rw [List.length_append]; simp; omega, h.plot, by have := h.steps; show D.steps ≤ _; omega⟩
theorem DskS.fit.a_done {D : DskS} {m : Nat} (h : D.fit m) (t : Tch) : (D.done t).fit (m + 2) := by
  unfold DskS.done
  split
  · exact h.a_tick.a_see t
  · exact h.a_tick.a_mono (by omega)
theorem DskS.fit.a_read {D : DskS} {m : Nat} (h : D.fit m) (at_ : Int) : (D.read at_).1.fit (m + 3) := by
  unfold DskS.read
  split
  · exact h.a_mono (by omega)
  · split <;> exact (h.a_done _).a_mono (by omega)
theorem DskS.fit.a_write {D : DskS} {m : Nat} (h : D.fit m) (at_ : Int) (b : List UInt8) : (D.write at_ b).1.fit (m + 3) := by
  unfold DskS.write
  split
  · exact h.a_mono (by omega)
  · split
    · exact h.a_mono (by omega)
    · show (D.wrote at_ b).fit (m + 3)
      unfold DskS.wrote
      have ht := h.a_tick
      split
      · have h2 := ht.a_see (1, at_, b)
        exact ⟨PowS.fit_mono h2.p (by omega), h2.n, by have := h2.safe; show (D.tick.see (1, at_, b)).safe.length ≤ _; omega, by have := ht.loose; show (D.tick.loose ++ [(at_, b)]).length ≤ _; rw [List.length_append]; simp; omega, by have := h2.seen; show (D.tick.see (1, at_, b)).seen.length ≤ _; omega, h2.plot, by have := h2.steps; show (D.tick.see (1, at_, b)).steps ≤ _; omega⟩
      · exact ht.a_mono (by omega)
theorem DskS.fit.a_flushed {D : DskS} {m : Nat} (h : D.fit m) (hm : m ≤ 280) : D.flushed.fit (m + 3) := by
  unfold DskS.flushed
  have ht := h.a_tick
  split
  · obtain ⟨a1, a2, a3, a4, a5⟩ := tick_len D
    obtain ⟨b1, b2, b3, b4, b5, b6, b7⟩ := settles_len D.tick.loose D.tick
    have h1 := h.safe
    have h2 := h.loose
    have h4 := h.plot
    refine ⟨?_, ?_, ?_, Nat.zero_le _, ?_, ?_, ?_⟩
    · show ((D.tick.settles D.tick.loose).p).fit (m + 3)
      rw [b3]
      exact PowS.fit_mono ht.p (by omega)
    · show 1 ≤ (D.tick.settles D.tick.loose).n ∧ (D.tick.settles D.tick.loose).n ≤ 4096
      rw [b5]
      exact ht.n
    · show (D.tick.settles D.tick.loose).safe.length ≤ 100 * (m + 3)
      omega
    · show ((D.tick.settles D.tick.loose).seen ++ [_]).length ≤ m + 3
      rw [b6, List.length_append]
      have := ht.seen
      simp
      omega
    · show (D.tick.settles D.tick.loose).plot.length ≤ 20
      rw [b7]
      exact ht.plot
    · show (D.tick.settles D.tick.loose).steps ≤ m + 3
      rw [b4]
      have := ht.steps
      omega
  · exact ht.a_mono (by omega)
theorem DskS.fit.a_poke {D : DskS} {m : Nat} (h : D.fit m) (x : Pok) : (D.poke x).fit (m + 1) := by
  obtain ⟨a1, a2, a3, a4, a5, a6, a7⟩ := poke_len D x
  have h1 := h.safe
  have h2 := h.loose
  have h3 := h.seen
  have h5 := h.steps
  exact ⟨by rw [a3]; exact PowS.fit_mono h.p (by omega), by rw [a5]; exact h.n, by omega, by omega, by rw [a6]; omega, by rw [a7]; exact h.plot, by rw [a4]; omega⟩
theorem DskS.fit.a_crash {D : DskS} {m : Nat} (h : D.fit m) (hm : m ≤ 280) (b : List Bool) : (D.crash b).fit (m + 3) := by
  obtain ⟨b1, b2, b3, b4, b5, b6, b7⟩ := settles_len (kept D.loose b) D
  have hk := kept_len D.loose b
  have h1 := h.safe
  have h2 := h.loose
  have h3 := h.seen
  have h5 := h.steps
  refine ⟨?_, ?_, ?_, Nat.zero_le _, ?_, ?_, ?_⟩
  · show ((D.settles (kept D.loose b)).p).fit (m + 3)
    rw [b3]
    exact PowS.fit_mono h.p (by omega)
  · show 1 ≤ (D.settles (kept D.loose b)).n ∧ (D.settles (kept D.loose b)).n ≤ 4096
    rw [b5]
    exact h.n
  · show (D.settles (kept D.loose b)).safe.length ≤ 100 * (m + 3)
    omega
  · show (D.settles (kept D.loose b)).seen.length ≤ m + 3
    rw [b6]
    omega
  · show (D.settles (kept D.loose b)).plot.length ≤ 20
    rw [b7]
    exact h.plot
  · show (D.settles (kept D.loose b)).steps ≤ m + 3
    rw [b4]
    omega
/-- An act leaves a little more. -/
theorem DskS.fit.a_act {D : DskS} {m : Nat} (h : D.fit m) (hm : m ≤ 280) (o : OpS) (hn : i64 o.n) : (D.act o).fit (m + 3) := by
  unfold DskS.act
  split
  · exact h.a_read _
  split
  · exact h.a_write _ _
  split
  · exact h.a_flushed hm
  split
  · exact (h.a_poke _).a_mono (by omega)
  split
  · have h' := h.a_mono (n := m + 3) (by omega)
    exact ⟨PowS.fit_set h'.p hn.2 _, h'.n, h'.safe, h'.loose, h'.seen, h'.plot, h'.steps⟩
  split
  · have h' := h.a_crash hm o.keep
    exact ⟨PowS.fit_back (PowS.fit_mono h.p (by omega)), h'.n, h'.safe, h'.loose, h'.seen, h'.plot, h'.steps⟩
  · exact h.a_mono (by omega)

end Go.Proofs.Ytfdilgnlfademaa

/-
  One act of layer 9's statements ('do'), whatever it is: what it makes of the plain disk ('act'), and how much that grows. Conditions: acts as the statements have them.
-/
namespace Go.Proofs.Ytfdilgnlfademaa
open Go.RowKit

theorem lDo (w : World) {V U F : Nat → Prop} {d r : Nat} {D E : DskS} {q : Quad} (hd : Dk U F w d r D) (hV : ∀ j, V j → j < w.heap.size) (hr : RD (fun j => ¬ F j ∧ ¬ V j) w E q) {mm : Nat} (hf : D.fit mm) (hfE : E.fit mm) (hmm : mm ≤ 5000) (o : OpS) {xa : Option Addr} {xm xc : Nat} (hB' : BA (fun j => ¬ F j) w xa xm xc o.x.bytes) {ka : Option Addr} {kn kc : Nat} (hK' : BoA (fun j => ¬ F j) w ka kn kc o.keep) (ho : o.fits) :
    Calls Try.prog 14 #[.pointer (some ⟨r, 0, none⟩), .pointer (some ⟨d, 0, none⟩), dv E q, .agg (oc o xa xm xc ka kn kc).toArray] w (Did (D = E) V U F w d r (D.act o) (E.act o)) := by
  unfold DskS.act OpS.block
  have e0 : ∀ k : Int, o.kind = k → (oc o xa xm xc ka kn kc).toArray = #[.int .i64 k, .int .i64 o.at_, .int .u8 (o.c.toNat : Int), .int .i64 o.x.on, .int .i64 o.x.at_, .int .i64 o.x.kind, .slice xa xm xc, .int .i64 o.x.num, .int .i64 o.n, .bool o.done, .slice ka kn kc] := fun k hk => by rw [← hk]; rfl
  by_cases h0 : o.kind = 0
  · rw [if_pos h0, if_pos h0, e0 0 h0]
    exact lDo0 w hd hV hr hf hfE hmm o hB' hK' ho
  rw [if_neg h0, if_neg h0]
  by_cases h1 : o.kind = 1
  · rw [if_pos h1, if_pos h1, e0 1 h1]
    by_cases i1 : o.n.tmod 9 = 4
    · rw [if_pos i1]
      exact lDo1t w hd hV hr hf hfE hmm o hB' hK' ho i1
    · rw [if_neg i1]
      exact lDo1 w hd hV hr hf hfE hmm o hB' hK' ho i1
  rw [if_neg h1, if_neg h1]
  by_cases h2 : o.kind = 2
  · rw [if_pos h2, if_pos h2, e0 2 h2]
    exact lDo2 w hd hV hr hf hfE hmm o hB' hK' ho
  rw [if_neg h2, if_neg h2]
  by_cases h3 : o.kind = 3
  · rw [if_pos h3, if_pos h3, e0 3 h3]
    exact lDo3 w hd hV hr hf hfE hmm o hB' hK' ho
  rw [if_neg h3, if_neg h3]
  by_cases h4 : o.kind = 4
  · rw [if_pos h4, if_pos h4, e0 4 h4]
    exact lDo4 w hd hV hr hf hfE hmm o hB' hK' ho
  rw [if_neg h4, if_neg h4]
  by_cases h5 : o.kind = 5
  · rw [if_pos h5, if_pos h5, e0 5 h5]
    exact lDo5 w hd hV hr hf hfE hmm o hB' hK' ho
  rw [if_neg h5, if_neg h5, e0 o.kind rfl]
  exact lDo6 w hd hV hr hf hfE hmm o o.kind ⟨h0, h1, h2, h3, h4, h5⟩ hB' hK' ho

end Go.Proofs.Ytfdilgnlfademaa

/-
  Plain mathematics of layer 9: what is flushed stays; a crash keeps whole blocks. No condition; nothing of the program.
-/
namespace Go.Proofs.Ytfdilgnlfademaa
open Go.RowKit

theorem ago_settle {D : DskS} {at_ k : Int} (h : ¬ at_ = k) (b : List UInt8) (j : Nat) : (D.settle at_ b).ago k j = D.ago k j := by
  unfold DskS.ago DskS.settle
  dsimp only
  rw [List.reverse_append, List.reverse_singleton, List.singleton_append]
  exact agoR_miss h
theorem ago_settles {k : Int} : ∀ {l : List Chg} {D : DskS}, (∀ c ∈ l, ¬ c.1 = k) → ∀ j, (D.settles l).ago k j = D.ago k j
  | [], _, _, _ => rfl
  | c :: l, D, h, j => by
    have e : D.settles (c :: l) = (D.settle c.1 c.2).settles l := rfl
    rw [e, ago_settles (fun x hx => h x (by simp [hx])), ago_settle (h c (by simp))]
theorem look_none {k : Int} : ∀ {l : List Chg}, (∀ c ∈ l, ¬ c.1 = k) → lookR l k = none
  | [], _ => rfl
  | c :: l, h => by rw [lookR_miss (h c (by simp))]; exact look_none fun x hx => h x (by simp [hx])
/-- Block k is safe, holds V, and nobody else plots. -/
structure DskS.firm (D : DskS) (k : Int) (V : List UInt8) : Prop where
  loose : ∀ c ∈ D.loose, ¬ c.1 = k
  ago : D.ago k 0 = V
  plot : D.plot = []
theorem DskS.firm.look {D : DskS} {k : Int} {V : List UInt8} (h : D.firm k V) : D.look k = V := by
  unfold DskS.look
  rw [look_none fun c hc => h.loose c (by simpa using hc)]
  exact h.ago
theorem tick_same {D : DskS} (h : D.plot = []) : D.tick.safe = D.safe ∧ D.tick.loose = D.loose ∧ D.tick.plot = [] ∧ D.tick.n = D.n := by
  unfold DskS.tick
  rw [h]
  exact ⟨rfl, rfl, h, rfl⟩
theorem DskS.firm.tick {D : DskS} {k : Int} {V : List UInt8} (h : D.firm k V) : D.tick.firm k V := by
  obtain ⟨a1, a2, a3, _⟩ := tick_same h.plot
  exact ⟨by rw [a2]; exact h.loose, by unfold DskS.ago; rw [a1]; exact h.ago, a3⟩
theorem DskS.firm.see {D : DskS} {k : Int} {V : List UInt8} (h : D.firm k V) (t : Tch) : (D.see t).firm k V := ⟨h.loose, h.ago, h.plot⟩
theorem DskS.firm.done {D : DskS} {k : Int} {V : List UInt8} (h : D.firm k V) (t : Tch) : (D.done t).firm k V := by
  unfold DskS.done
  split
  · exact h.tick.see t
  · exact h.tick
theorem DskS.firm.read {D : DskS} {k : Int} {V : List UInt8} (h : D.firm k V) (at_ : Int) : (D.read at_).1.firm k V := by
  unfold DskS.read
  split
  · exact h
  · split <;> exact h.done _
theorem DskS.firm.write {D : DskS} {k : Int} {V : List UInt8} (h : D.firm k V) {at_ : Int} (hk : ¬ at_ = k) (b : List UInt8) : (D.write at_ b).1.firm k V := by
  unfold DskS.write
  split
  · exact h
  · split
    · exact h
    · show (D.wrote at_ b).firm k V
      unfold DskS.wrote
      have ht := h.tick
      split
      · refine ⟨fun c hc => ?_, ht.ago, ht.plot⟩
        rcases List.mem_append.1 hc with hc | hc
        · exact ht.loose c hc
        · rw [List.mem_singleton.1 hc]
          exact hk
      · exact ht
theorem DskS.firm.flushed {D : DskS} {k : Int} {V : List UInt8} (h : D.firm k V) : D.flushed.firm k V := by
  unfold DskS.flushed
  have ht := h.tick
  split
  · refine ⟨fun c hc => (by cases hc), ?_, ?_⟩
    · exact (ago_settles ht.loose 0).trans ht.ago
    · exact (settles_len D.tick.loose D.tick).2.2.2.2.2.2.trans ht.plot
  · exact ht
theorem DskS.firm.poke {D : DskS} {k : Int} {V : List UInt8} (h : D.firm k V) {x : Pok} (hk : ¬ x.at_ = k) : (D.poke x).firm k V := by
  unfold DskS.poke
  split
  · exact h
  · refine ⟨fun c hc => h.loose c (List.mem_filter.1 hc).1, ?_, h.plot⟩
    exact (ago_settle hk _ 0).trans h.ago
theorem kept_mem : ∀ {l : List Chg} {b : List Bool} {c : Chg}, c ∈ kept l b → c ∈ l
  | [], b, c, h => by cases b with | nil => cases h | cons x b => cases h
  | a :: l, [], c, h => by cases h
  | a :: l, true :: b, c, h => by
    rcases List.mem_cons.1 h with rfl | h
    · simp
    · exact List.mem_cons_of_mem _ (kept_mem h)
  | a :: l, false :: b, c, h => List.mem_cons_of_mem _ (kept_mem (show c ∈ kept l b from h))
theorem DskS.firm.crash {D : DskS} {k : Int} {V : List UInt8} (h : D.firm k V) (b : List Bool) : (D.crash b).firm k V :=
  ⟨fun c hc => (by cases hc), (ago_settles (fun c hc => h.loose c (kept_mem hc)) 0).trans h.ago, (settles_len (kept D.loose b) D).2.2.2.2.2.2.trans h.plot⟩
/-- The act is of block k. -/
def OpS.on (o : OpS) (k : Int) : Prop := (o.kind = 1 ∧ o.at_ = k) ∨ (o.kind = 3 ∧ o.x.at_ = k)
theorem DskS.firm.act {D : DskS} {k : Int} {V : List UInt8} (h : D.firm k V) {o : OpS} (ho : ¬ o.on k) : (D.act o).firm k V := by
  unfold DskS.act
  split
  · exact h.read _
  split
  · rename_i h1
    exact h.write (fun e => ho (Or.inl ⟨h1, e⟩)) _
  split
  · exact h.flushed
  split
  · rename_i h3
    exact h.poke (fun e => ho (Or.inr ⟨h3, e⟩))
  split
  · exact ⟨h.loose, h.ago, h.plot⟩
  split
  · have h' := h.crash o.keep
    exact ⟨h'.loose, h'.ago, h'.plot⟩
  · exact h
theorem ok_does {S : PowS} (h : S.ok = true) : S.does = true := by
  unfold PowS.ok at h
  unfold PowS.does
  cases hd : S.down <;> simp_all
/-- Behind a flush that was answered each block is safe. -/
theorem firm_flushed {D : DskS} (hp : D.plot = []) (h : D.p.ok = true) (k : Int) : D.flushed.firm k (D.flushed.look k) := by
  have hl : D.flushed.loose = [] := by unfold DskS.flushed; rw [if_pos (ok_does h)]; rfl
  have hq : D.flushed.plot = [] := by
    unfold DskS.flushed
    rw [if_pos (ok_does h)]
    exact (settles_len D.tick.loose D.tick).2.2.2.2.2.2.trans (tick_same hp).2.2.1
  refine ⟨fun c hc => (by rw [hl] at hc; cases hc), ?_, hq⟩
  unfold DskS.look
  rw [hl]
  rfl

/-- A block of like bytes is a block. -/
theorem fit_like (a : UInt8) : fitB (like a) = like a := by
  unfold fitB
  rw [List.take_append_of_le_length (by rw [like_length]; omega), List.take_of_length_le (by rw [like_length]; omega)]
/-- Of two writes of one block behind a crash. -/
theorem crash_whole {D : DskS} {k : Int} {A B : List UInt8} (hA : fitB A = A) (hB : fitB B = B) (hl : D.loose = [(k, A), (k, B)]) (b : List Bool) : (D.crash b).look k = D.ago k 0 ∨ (D.crash b).look k = A ∨ (D.crash b).look k = B := by
  have e : (D.crash b).look k = (D.settles (kept D.loose b)).ago k 0 := rfl
  have s1 : ∀ (E : DskS) (C : List UInt8), fitB C = C → (E.settle k C).ago k 0 = C := fun E C hC => by
    unfold DskS.ago DskS.settle
    dsimp only
    rw [List.reverse_append, List.reverse_singleton, List.singleton_append, agoR_zero rfl, hC]
  rw [e, hl]
  match b with
  | [] => exact Or.inl rfl
  | [false] => exact Or.inl rfl
  | [true] => exact Or.inr (Or.inl (s1 D A hA))
  | false :: false :: _ => exact Or.inl rfl
  | true :: false :: _ => exact Or.inr (Or.inl (s1 D A hA))
  | false :: true :: _ => exact Or.inr (Or.inr (s1 D B hB))
  | true :: true :: _ => exact Or.inr (Or.inr (s1 (D.settle k A) B hB))

end Go.Proofs.Ytfdilgnlfademaa

/-
  Plain mathematics of layer 9's three statements: what acts keep, what two writes behind a crash leave. No condition; nothing of the program.
-/
namespace Go.Proofs.Ytfdilgnlfademaa
open Go.RowKit

theorem done_same (D : DskS) (t : Tch) : (D.done t).n = D.n ∧ (D.done t).plot = D.plot := by
  obtain ⟨_, _, a3, _, a5⟩ := tick_len D
  unfold DskS.done
  split
  · exact ⟨a3, a5⟩
  · exact ⟨a3, a5⟩
theorem act_same (D : DskS) (o : OpS) : (D.act o).n = D.n ∧ (D.act o).plot = D.plot := by
  obtain ⟨_, _, a3, _, a5⟩ := tick_len D
  unfold DskS.act
  split
  · unfold DskS.read
    split
    · exact ⟨rfl, rfl⟩
    · split <;> exact done_same _ _
  split
  · unfold DskS.write
    split
    · exact ⟨rfl, rfl⟩
    · split
      · exact ⟨rfl, rfl⟩
      · show (D.wrote _ _).n = D.n ∧ (D.wrote _ _).plot = D.plot
        unfold DskS.wrote
        split
        · exact ⟨a3, a5⟩
        · exact ⟨a3, a5⟩
  split
  · unfold DskS.flushed
    split
    · obtain ⟨_, _, _, _, b5, _, b7⟩ := settles_len D.tick.loose D.tick
      exact ⟨b5.trans a3, b7.trans a5⟩
    · exact ⟨a3, a5⟩
  split
  · obtain ⟨_, _, _, _, b5, _, b7⟩ := poke_len D o.x
    exact ⟨b5, b7⟩
  split
  · exact ⟨rfl, rfl⟩
  split
  · obtain ⟨_, _, _, _, b5, _, b7⟩ := settles_len (kept D.loose o.keep) D
    exact ⟨b5, b7⟩
  · exact ⟨rfl, rfl⟩
theorem plot_fit {n : Int} {l : List Pok} (hn : 1 ≤ n ∧ n ≤ 4096) (hl : l.length ≤ 20) : ({ DskS.new PowS.new n with plot := l } : DskS).fit 3 :=
  ⟨PowS.fit_mono PowS.fit_new (by omega), hn, by show 0 ≤ _; omega, by show 0 ≤ _; omega, by show 0 ≤ _; omega, hl, by show 0 ≤ _; omega⟩
theorem write_n (D : DskS) (k : Int) (b : List UInt8) : (D.write k b).1.n = D.n := by
  obtain ⟨_, _, a3, _, _⟩ := tick_len D
  unfold DskS.write
  split
  · rfl
  · split
    · rfl
    · show (D.wrote k b).n = D.n
      unfold DskS.wrote
      split <;> exact a3
theorem flushed_n (D : DskS) : D.flushed.n = D.n := by
  obtain ⟨_, _, a3, _, _⟩ := tick_len D
  unfold DskS.flushed
  split
  · exact (settles_len D.tick.loose D.tick).2.2.2.2.1.trans a3
  · exact a3
/-- The disk behind a crash that keeps nothing, the power there again. -/
def DskS.fresh (D : DskS) : DskS := { D.crash [] with p := D.p.back }
theorem fresh_same (D : DskS) : D.fresh.n = D.n ∧ D.fresh.plot = D.plot ∧ D.fresh.loose = [] ∧ D.fresh.p = D.p.back := by
  have : kept D.loose [] = [] := by cases D.loose <;> rfl
  unfold DskS.fresh DskS.crash
  rw [this]
  exact ⟨rfl, rfl, rfl, rfl⟩
theorem wrote_at {D : DskS} (hp : D.plot = []) (hd : D.p.does = true) (k : Int) (b : List UInt8) : (D.wrote k b).loose = D.loose ++ [(k, b)] ∧ (D.wrote k b).safe = D.safe ∧ (D.wrote k b).plot = [] ∧ (D.wrote k b).n = D.n ∧ (D.wrote k b).p = D.p.next := by
  obtain ⟨a1, a2, a3, a4⟩ := tick_same hp
  unfold DskS.wrote
  rw [if_pos hd]
  exact ⟨by show D.tick.loose ++ _ = _; rw [a2], a1, a3, a4, rfl⟩
theorem write_code {D : DskS} {k : Int} {b : List UInt8} (hk : 0 ≤ k ∧ k < D.n) (hb : b.length = 512) : D.write k b = (D.wrote k b, if D.p.ok then 0 else 5) := by
  unfold DskS.write
  rw [if_neg (by omega), if_neg (by simp [hb])]
/-- Two writes of one block behind a crash, and another crash. -/
theorem whole9 {D : DskS} (hn : D.n = 9) (hp : D.plot = []) (x y : UInt8) (b : List Bool) :
    (D.fresh.write 3 (like x)).2 = 0 ∧ ((D.fresh.write 3 (like x)).1.write 3 (like y)).2 = 0 ∧
    ((((D.fresh.write 3 (like x)).1.write 3 (like y)).1.crash b).look 3 = D.fresh.look 3 ∨ (((D.fresh.write 3 (like x)).1.write 3 (like y)).1.crash b).look 3 = like x ∨ (((D.fresh.write 3 (like x)).1.write 3 (like y)).1.crash b).look 3 = like y) := by
  obtain ⟨a1, a2, a3, a4⟩ := fresh_same D
  have hok : D.fresh.p.ok = true := by rw [a4]; rfl
  have hdo : D.fresh.p.does = true := by rw [a4]; rfl
  rw [write_code (by rw [a1, hn]; omega) (like_length x), if_pos hok]
  obtain ⟨b1, b2, b3, b4, b5⟩ := wrote_at (a2.trans hp) hdo 3 (like x)
  have hok2 : (D.fresh.wrote 3 (like x)).p.ok = true := by rw [b5, a4]; rfl
  have hdo2 : (D.fresh.wrote 3 (like x)).p.does = true := by rw [b5, a4]; rfl
  dsimp only
  rw [write_code (by rw [b4, a1, hn]; omega) (like_length y), if_pos hok2]
  obtain ⟨c1, c2, c3, c4, c5⟩ := wrote_at b3 hdo2 3 (like y)
  refine ⟨rfl, rfl, ?_⟩
  dsimp only
  have hl : ((D.fresh.wrote 3 (like x)).wrote 3 (like y)).loose = [(3, like x), (3, like y)] := by rw [c1, b1, a3]; rfl
  have e0 : D.fresh.look 3 = ((D.fresh.wrote 3 (like x)).wrote 3 (like y)).ago 3 0 := by
    unfold DskS.look DskS.ago
    rw [a3, c2, b2]
    rfl
  rw [e0]
  exact crash_whole (fit_like x) (fit_like y) hl b
theorem fresh_fit {D : DskS} {m : Nat} (h : D.fit m) (hm : m ≤ 280) : D.fresh.fit (m + 3) := by
  have h' := h.a_crash hm []
  exact ⟨PowS.fit_back (PowS.fit_mono h.p (by omega)), h'.n, h'.safe, h'.loose, h'.seen, h'.plot, h'.steps⟩

end Go.Proofs.Ytfdilgnlfademaa

/-
  How the program's disk outlasts what layer 9's statements do around it: which memory it uses ('StaD'), what was answered once ('BA.after'). No condition.
-/
namespace Go.Proofs.Ytfdilgnlfademaa
open Go.RowKit

/-- The disk D in memory that is all newer than w0. -/
structure StaD (w0 w : World) (d r : Nat) (U F : Nat → Prop) (D : DskS) : Prop where
  dk : Dk U F w d r D
  base : ∀ j, U j → w0.heap.size ≤ j
  bel : Below w0.heap.size w0 w
theorem StaD.after {w0 w w' : World} {d r : Nat} {U F U' F' : Nat → Prop} {D D' : DskS} (h : StaD w0 w d r U F D) (hd : Dk U' F' w' d r D') (hU : Next w U U') (k : Kp F w w') : StaD w0 w' d r U' F' D' :=
  ⟨hd, fun j hj => by
    have := h.bel.size
    rcases hU j hj with h1 | h1
    · exact h.base j h1
    · omega, below_kp h.bel k h.bel.size fun j hj hF => by
    have := h.base j (h.dk.sub j hF)
    omega⟩
theorem StaD.grow {w0 w w' : World} {d r : Nat} {U F : Nat → Prop} {D : DskS} (h : StaD w0 w d r U F D) (k : Below w.heap.size w w') : StaD w0 w' d r U F D := ⟨h.dk.grows k, h.base, h.bel.trans (k.mono h.bel.size)⟩
/-- Newer memory is none that the disk writes. -/
theorem StaD.new {w0 w w' : World} {d r : Nat} {U F : Nat → Prop} {D : DskS} (h : StaD w0 w d r U F D) {p : Option Addr} {m q : Nat} {b : List UInt8} (hb : B5 (fun j => w.heap.size ≤ j) w' p m q b) : BA (fun j => ¬ F j) w' p m q b :=
  (hb.mono (A' := fun j => ¬ F j) fun j _ hj hF => by have := h.dk.lt j (h.dk.sub j hF); omega).ba
/-- What is older than w0 is none that the disk uses. -/
theorem StaD.old {w0 w : World} {d r : Nat} {U F : Nat → Prop} {D : DskS} (h : StaD w0 w d r U F D) : ∀ j, j < w0.heap.size → ¬ F j := fun j hj hF => by
  have := h.base j (h.dk.sub j hF)
  omega
theorem StaD.power {w0 w w' : World} {d r : Nat} {U F : Nat → Prop} {D : DskS} (h : StaD w0 w d r U F D) {P : PowS} (hp : Pw w' r P) (k : Kp (fun j => j = r) w w') : StaD w0 w' d r U F { D with p := P } :=
  h.after (h.dk.power hp k) (fun j hj => Or.inl hj) (k.mono fun j _ e => by rw [e]; exact h.dk.pw.2)
theorem StaD.first {w0 w w' : World} {d r : Nat} {U F : Nat → Prop} {D : DskS} (hb : Below w0.heap.size w0 w) (hr : w0.heap.size ≤ r) (hd : Dk U F w' d r D) (hU : ∀ j, U j → j = r ∨ w.heap.size ≤ j) (hb' : Below w.heap.size w w') : StaD w0 w' d r U F D :=
  ⟨hd, fun j hj => by
    have := hb.size
    rcases hU j hj with h | h <;> omega, hb.trans (hb'.mono hb.size)⟩

end Go.Proofs.Ytfdilgnlfademaa

/-
  The smoke of layer 9's statements: it answers true. No condition.
-/
namespace Go.Proofs.Ytfdilgnlfademaa
open Go.RowKit

def s9t0 : DskS := DskS.new PowS.new 4
def s9t1 : DskS := (s9t0.write 1 (like 7)).1
def s9t2 : DskS := (s9t1.read 1).1
def s9t3 : DskS := s9t2.crash []
def s9t4 : DskS := (s9t3.read 1).1
def s9x : Pok := ⟨0, 2, 0, [9], 0⟩
def s9t5 : DskS := s9t4.poke s9x
theorem s9fit {D : DskS} (h1 : D.p.steps = D.steps) (h2 : D.p.fuse = -1) (h3 : D.n = 4) (h4 : D.safe.length ≤ 3) (h5 : D.loose.length ≤ 3) (h6 : D.seen.length ≤ 3) (h7 : D.plot.length ≤ 3) (h8 : D.steps ≤ 3) : D.fit 3 :=
  ⟨⟨by omega, by omega, by omega⟩, by omega, by omega, by omega, by omega, by omega, by omega⟩
theorem s9f0 : s9t0.fit 3 := s9fit rfl rfl rfl (by decide +kernel) (by decide +kernel) (by decide +kernel) (by decide +kernel) (by decide +kernel)
theorem s9f1 : s9t1.fit 3 := s9fit (by decide +kernel) (by decide +kernel) (by decide +kernel) (by decide +kernel) (by decide +kernel) (by decide +kernel) (by decide +kernel) (by decide +kernel)
theorem s9f2 : s9t2.fit 3 := s9fit (by decide +kernel) (by decide +kernel) (by decide +kernel) (by decide +kernel) (by decide +kernel) (by decide +kernel) (by decide +kernel) (by decide +kernel)
theorem s9f3 : s9t3.fit 3 := s9fit (by decide +kernel) (by decide +kernel) (by decide +kernel) (by decide +kernel) (by decide +kernel) (by decide +kernel) (by decide +kernel) (by decide +kernel)
theorem s9f4 : s9t4.fit 3 := s9fit (by decide +kernel) (by decide +kernel) (by decide +kernel) (by decide +kernel) (by decide +kernel) (by decide +kernel) (by decide +kernel) (by decide +kernel)
theorem s9f5 : s9t5.fit 3 := s9fit (by decide +kernel) (by decide +kernel) (by decide +kernel) (by decide +kernel) (by decide +kernel) (by decide +kernel) (by decide +kernel) (by decide +kernel)
theorem s9e1 : (s9t0.write 1 (like 7)).2 = 0 := by decide +kernel
theorem s9e2 : (s9t1.read 1).2.2 = 0 := by decide +kernel
theorem s9e2l : (s9t1.read 1).2.1.length = 512 := by decide +kernel
theorem s9e2b : bt (s9t1.read 1).2.1 5 = 7 := by decide +kernel
theorem s9e4 : (s9t3.read 1).2.2 = 0 := by decide +kernel
theorem s9e4l : (s9t3.read 1).2.1.length = 512 := by decide +kernel
theorem s9e4b : bt (s9t3.read 1).2.1 5 = 0 := by decide +kernel
theorem s9e4x : (s9t4.read 4).2.2 = 2 := by decide +kernel
theorem s9e4n : s9t4.n = 4 := by decide +kernel
theorem s9e4y : (s9t4.read 4).1 = s9t4 := by unfold DskS.read; rw [if_pos (Or.inr (by rw [s9e4n]; omega))]
theorem s9e5 : bt (s9t5.look 2) 0 = 9 := by decide +kernel
theorem s9e5l : (s9t5.look 2).length = 512 := by decide +kernel
theorem s9e5s : s9t5.steps = 3 := by decide +kernel
theorem s9e5t : s9t5.seen.length = 3 := by decide +kernel
theorem s9e5n : s9t5.n = 4 := by decide +kernel
theorem s9e5w : s9t5.loose.length = 0 := by decide +kernel

set_option maxRecDepth 100000 in
set_option maxHeartbeats 4000000 in
theorem lWorks9 (w : World) : Calls Try.prog 7 #[] w fun e w' => e = .returned (.bool true) ∧ Below w.heap.size w w' := by
  go_enter Try.func7, Try.ntmps7
  go_wp2_with fail
  refine (oPNew w).mono ?_
  rintro e w1 ⟨r, rfl, hr, hp, hb1⟩
  go_wp2_with fail
  refine (oDNew w1 hp 4 (by omega)).mono ?_
  rintro e w2 ⟨d, U, F, rfl, hd, hU, hb2⟩
  have S0 : Hid (StaD w w2 d r U F s9t0) := StaD.first hb1 hr hd hU hb2
  clear hd hU hb2 hb1 hp
  go_wp2_with fail
  refine (oDNewNot w2 S0.out.dk.pw.1 0 (by omega)).mono ?_
  rintro e w3 ⟨rfl, hb3⟩
  have S1 : Hid (StaD w w3 d r U F s9t0) := S0.out.grow hb3
  clear S0 hb3
  go_wp2_with fail
  refine (lFill w3 7).mono ?_
  rintro e w4 ⟨g, rfl, hg, h5, hb4⟩
  have S2 : Hid (StaD w w4 d r U F s9t0) := S1.out.grow hb4
  have H5 := S1.out.new h5
  clear S1 h5 hb4
  go_wp2_with fail
  refine (oDWrite w4 S2.out.dk s9f0 (by omega) 1 (by constructor <;> omega) H5).mono ?_
  rintro e w5 ⟨rfl, U2, F2, hd, hU, hF, hk⟩
  rw [s9e1]
  have S3 : Hid (StaD w w5 d r U2 F2 s9t1) := S2.out.after hd hU hk
  clear S2 H5 hd hU hF hk
  go_wp2_with fail
  refine (oDRead w5 S3.out.dk s9f1 (by omega) 1 (by constructor <;> omega)).mono ?_
  rintro e w6 ⟨bp, bm, bc, rfl, U3, F3, hd, hU, hF, hk, HB0⟩
  have HB := HB0.mono (A' := fun j => ¬ F3 j) fun _ _ h => h.1
  rw [s9e2]
  have S4 : Hid (StaD w w6 d r U3 F3 s9t2) := S3.out.after hd hU hk
  clear S3 hd hU hF hk HB0
  go_wp2_with fail
  refine (oDCrash w6 S4.out.dk s9f2 (by omega) (p := none) (m := 0) (c := 0) (b := []) ⟨⟨rfl, Nat.le_refl _, Nat.zero_le _, fun _ => rfl, fun i hi => by omega⟩, fun h => by omega⟩ (by omega)).mono ?_
  rintro e w7 ⟨rfl, U4, F4, hd, hU, hF, hk⟩
  have S5 : Hid (StaD w w7 d r U4 F4 s9t3) := S4.out.after hd hU hk
  have HB5 := HB.after hk hF
  clear S4 hd hU hF hk HB
  go_wp2_with fail
  refine (oDRead w7 S5.out.dk s9f3 (by omega) 1 (by constructor <;> omega)).mono ?_
  rintro e w8 ⟨gp, gm, gc, rfl, U5, F5, hd, hU, hF, hk, HG0⟩
  have HG := HG0.mono (A' := fun j => ¬ F5 j) fun _ _ h => h.1
  rw [s9e4]
  have S6 : Hid (StaD w w8 d r U5 F5 s9t4) := S5.out.after hd hU hk
  have HB6 := HB5.after hk hF
  clear S5 hd hU hF hk HB5 HG0
  go_wp2_with fail
  refine (oDRead w8 S6.out.dk s9f4 (by omega) 4 (by constructor <;> omega)).mono ?_
  rintro e w9 ⟨xp, xm, xc, rfl, U6, F6, hd, hU, hF, hk, HX⟩
  rw [s9e4x]
  rw [s9e4y] at hd
  have S7 : Hid (StaD w w9 d r U6 F6 s9t4) := S6.out.after hd hU hk
  have HB7 := HB6.after hk hF
  have HG7 := HG.after hk hF
  clear S6 hd hU hF hk HB6 HG HX
  have lb : bm = 512 := by rw [← HB7.1.len]; exact s9e2l
  have lg : gm = 512 := by rw [← HG7.1.len]; exact s9e4l
  subst lb lg
  go_wp2_with fail
  have hb0 := below_alloc w9 (.cells #[.int .u8 9] 5)
  have S8 : Hid (StaD w (w9.alloc (.cells #[.int .u8 9] 5)) d r U6 F6 s9t4) := S7.out.grow hb0
  have h9 : BA (fun j => ¬ F6 j) (w9.alloc (.cells #[.int .u8 9] 5)) (some ⟨w9.heap.size, 0, none⟩) 1 1 s9x.bytes :=
    ⟨Bs.made w9 [9] _ rfl (by simp), fun _ => ⟨_, rfl, fun hF => by have := S7.out.dk.lt _ (S7.out.dk.sub _ hF); dsimp only at this; omega, by simp⟩⟩
  have HB8 := HB7.grow hb0
  have HG8 := HG7.grow hb0
  clear HB7 HG7 S7 hb0
  generalize w9.alloc (.cells #[.int .u8 9] 5) = v9 at *
  refine (oDPoke v9 S8.out.dk s9f4 (by omega) s9x h9 (by omega) ⟨by constructor <;> decide, by constructor <;> decide, by constructor <;> decide, by constructor <;> decide⟩).mono ?_
  rintro e v1 ⟨rfl, U7, F7, hd, hU, hF, hk⟩
  have S9 : Hid (StaD w v1 d r U7 F7 s9t5) := S8.out.after hd hU hk
  have HB9 := HB8.after hk hF
  have HG9 := HG8.after hk hF
  clear S8 hd hU hF hk HB8 HG8 h9
  obtain ⟨bb, bo, rfl, bl, bc5⟩ := HB9.1.at (by omega)
  obtain ⟨gb, go, rfl, gl, gc5⟩ := HG9.1.at (by omega)
  have cb := bc5 5 (by omega)
  have cg := gc5 5 (by omega)
  rw [s9e2b] at cb
  rw [s9e4b] at cg
  clear bc5 gc5 HB9 HG9
  have CL : Hid (Calls Try.prog 19 #[.pointer (some ⟨d, 0, none⟩), .int .i64 2] v1 fun e w' => ∃ p m c, e = .returned (.slice p m c) ∧ BA (fun j => ¬ F7 j ∧ (U7 j ∨ v1.heap.size ≤ j)) w' p m c (s9t5.look 2) ∧ Below v1.heap.size v1 w') := oDLook v1 S9.out.dk s9f5 (by omega) 2 (by rw [s9e5n]; omega)
  go_wp2_with fail
  refine CL.out.mono ?_
  rintro e v2 ⟨lp, lm, lc, rfl, HL, hb⟩
  have S10 : Hid (StaD w v2 d r U7 F7 s9t5) := S9.out.grow hb
  have ll : lm = 512 := by rw [← HL.1.len]; exact s9e5l
  subst ll
  obtain ⟨lb, lo, rfl, ll, lc5⟩ := HL.1.at (by omega)
  have cl := lc5 0 (by omega)
  rw [s9e5, Nat.add_zero] at cl
  clear lc5 HL CL S9 hb
  go_wp2_with fail
  refine (oDSteps v2 S10.out.dk).mono ?_
  rintro e v3 ⟨rfl, hb⟩
  have S11 : Hid (StaD w v3 d r U7 F7 s9t5) := S10.out.grow hb
  rw [s9e5s]
  clear S10 hb
  go_wp2_with fail
  refine (oDSeen v3 S11.out.dk s9f5 (by omega)).mono ?_
  rintro e v4 ⟨sp, sm, sc, rfl, HS, hb⟩
  have S12 : Hid (StaD w v4 d r U7 F7 s9t5) := S11.out.grow hb
  have ls : sm = 3 := by rw [← HS.len]; exact s9e5t
  subst ls
  clear S11 hb HS
  go_wp2_with fail
  refine (oDSize v4 S12.out.dk).mono ?_
  rintro e v5 ⟨rfl, hb⟩
  have S13 : Hid (StaD w v5 d r U7 F7 s9t5) := S12.out.grow hb
  rw [s9e5n]
  clear S12 hb
  go_wp2_with fail
  refine (oDLoose v5 S13.out.dk).mono ?_
  rintro e v6 ⟨rfl, hb⟩
  have S14 : Hid (StaD w v6 d r U7 F7 s9t5) := S13.out.grow hb
  rw [s9e5w]
  clear S13 hb
  go_wp2_with fail
  go_ret
  exact ⟨rfl, S14.out.bel⟩

end Go.Proofs.Ytfdilgnlfademaa

/-
  Both disks in a loop of layer 9's statements: the program's, and the reference's in a variable ('Two'), and what an act makes of them. No condition.
-/
namespace Go.Proofs.Ytfdilgnlfademaa
open Go.RowKit

/-- Acts, bools, pokes that were handed in. -/
def Acts (w : World) (a : Option Addr) (n c : Nat) (l : List OpS) : Prop := Sl (elO fun j => j < w.heap.size) 11 (fun j => j < w.heap.size) w a n c l
def BoW (w : World) (a : Option Addr) (n c : Nat) (l : List Bool) : Prop := BoA (fun j => j < w.heap.size) w a n c l
def Pokes (w : World) (a : Option Addr) (n c : Nat) (l : List Pok) : Prop := Sl (elP fun j => j < w.heap.size) 5 (fun j => j < w.heap.size) w a n c l
theorem acts_of_trod {H : Type} {enc : TypeId × Value → H} {W : World} {base : Nat} {held : Bool} {fuel : Nat} {a : Option Addr} {n c : Nat} {x : DataW H × List MemPlace} (h : DataW.trod enc Try.prog W base (fun _ => true) held fuel 23 [.slice a n c] = some x) : ∃ l, Acts W a n c l := Acts.of_trod (fun _ h => h) h
theorem bow_of_trod {H : Type} {enc : TypeId × Value → H} {W : World} {base : Nat} {held : Bool} {fuel : Nat} {a : Option Addr} {n c : Nat} {x : DataW H × List MemPlace} (h : DataW.trod enc Try.prog W base (fun _ => true) held fuel 48 [.slice a n c] = some x) : ∃ l, BoW W a n c l := BoA.of_trod (fun _ h => h) h
theorem pokes_of_trod {H : Type} {enc : TypeId × Value → H} {W : World} {base : Nat} {held : Bool} {fuel : Nat} {a : Option Addr} {n c : Nat} {x : DataW H × List MemPlace} (h : DataW.trod enc Try.prog W base (fun _ => true) held fuel 22 [.slice a n c] = some x) : ∃ l, Pokes W a n c l := Pokes.of_trod (fun _ h => h) h

theorem Acts.grow {w w' : World} {a : Option Addr} {n c : Nat} {l : List OpS} (h : Acts w a n c l) (hb : Below w.heap.size w w') : Acts w' a n c l := by
  have h1 : Sl (elO fun j => j < w.heap.size) 11 (fun j => j < w.heap.size) w' a n c l := Sl.keep h hb.size (fun x vs hx => hx.keep hb.size fun j hj _ => hb.block j hj) fun j hj _ => hb.block j hj
  refine h1.mono (fun x vs hx => ?_) fun j hj _ => hj
  obtain ⟨p, m, q, a, k, c, e, g1, g2, r⟩ := hx
  exact ⟨p, m, q, a, k, c, e, g1.mono fun j hj _ => hj, ⟨g2.1, fun hn => by
    obtain ⟨y, e, ha, hy⟩ := g2.2 hn
    exact ⟨y, e, hy, hy⟩⟩, r⟩
/-- The program's disk holds D, the reference's, in variable X, E; mm: how much that is. -/
structure Two (w0 wr : World) (X d r mm : Nat) (U F : Nat → Prop) (D E : DskS) (q : Quad) : Prop where
  sta : StaD w0 wr d r U F D
  xu : ¬ U X
  xw : w0.heap.size ≤ X
  bx : Blk wr X (dc E q) 40
  rd : RD (fun j => ¬ F j ∧ ¬ j = X) wr E q
  fd : D.fit mm
  fe : E.fit mm
theorem Two.xf {w0 wr : World} {X d r mm : Nat} {U F : Nat → Prop} {D E : DskS} {q : Quad} (T : Two w0 wr X d r mm U F D E q) : ¬ F X := fun h => T.xu (T.sta.dk.sub X h)
theorem Two.grow {w0 wr w' : World} {X d r mm : Nat} {U F : Nat → Prop} {D E : DskS} {q : Quad} (T : Two w0 wr X d r mm U F D E q) (h : Below wr.heap.size wr w') : Two w0 w' X d r mm U F D E q :=
  ⟨T.sta.grow h, T.xu, T.xw, T.bx.below h T.bx.lt, T.rd.below h, T.fd, T.fe⟩
/-- The i-th act that was handed in. -/
theorem Acts.at {w0 wr : World} {a : Option Addr} {n c : Nat} {l : List OpS} (h : Acts w0 a n c l) (hb : Below w0.heap.size w0 wr) (hl : ∀ o ∈ l, o.light) {s : Nat} {x : OpS} (hx : l[s]? = some x) {F : Nat → Prop} (hF : ∀ j, j < w0.heap.size → ¬ F j) :
    ∃ b o p m q ka kn kc, a = some ⟨b, o, none⟩ ∧ b < w0.heap.size ∧ wr.rangeAt b (o + s * 11) (oc x p m q ka kn kc) ∧ BA (fun j => ¬ F j) wr p m q x.x.bytes ∧ BoA (fun j => ¬ F j) wr ka kn kc x.keep ∧ x.fits := by
  have hk : ∀ j, j < w0.heap.size → j < w0.heap.size → wr.heap[j]? = w0.heap[j]? := fun j hj _ => hb.block j hj
  obtain ⟨b, o, p, m, q, ka, kn, kc, rfl, hlt, hrg, hB, hK, i1, i2, i3, i4, i5, i6, i7⟩ := Sl.act h hx
  refine ⟨b, o, p, m, q, ka, kn, kc, rfl, hlt, fun j v hj => ?_, (hB.keep hb.size hk).mono fun j _ hj => hF j hj, ?_, i1, i2, i3, i4, i5, i6, i7, hl x (List.mem_of_getElem? hx)⟩
  · rw [World.cell?_of_block (w := w0) (hb.block b hlt)]
    exact hrg j v hj
  · have hK2 := hK.keep hb.size hk
    exact ⟨hK2.1, fun hn => by
      obtain ⟨y, e, ha, hy⟩ := hK2.2 hn
      exact ⟨y, e, hF _ ha, hy⟩⟩
/-- Behind an act, and its answer stored. -/
theorem Two.acted {w0 u1 u2 u4 u5 u6 : World} {X d r mm : Nat} {U F U2 F2 : Nat → Prop} {D E D1 E1 : DskS} {q q1 : Quad} (T : Two w0 u1 X d r mm U F D E q) (hd2 : Dk U2 F2 u2 d r D1) (hr2 : RD (fun j => ¬ F2 j ∧ ¬ j = X) u2 E1 q1) (hU2 : Next u1 U U2) (hk2 : Kp F u1 u2) (f1 : D1.fit (mm + 3)) (f2 : E1.fit (mm + 3))
    (h24 : Grows u2 u4) (b5 : Blk u5 X (dc E1 q1) 40) (q5 : Kp (fun j => j = X) u4 u5) (h56 : Grows u5 u6) : Two w0 u6 X d r (mm + 3) U2 F2 D1 E1 q1 := by
  have hX : ¬ U2 X := fun h => by
    rcases hU2 X h with h | h
    · exact T.xu h
    · have := T.bx.lt
      omega
  have s2 := (T.sta.after hd2 hU2 hk2).grow h24
  refine Two.grow ⟨⟨s2.dk.keep q5 fun j hj e => hX (e ▸ hj), s2.base, below_kp s2.bel q5 s2.bel.size fun j hj e => by have := T.xw; omega⟩, hX, T.xw, b5, (hr2.below h24).kp q5 fun j hj => hj.2, f1, f2⟩ h56
/-- What was answered once, behind that. -/
theorem BA.acted {u1 u2 u4 u5 u6 : World} {X : Nat} {F F2 : Nat → Prop} {p : Option Addr} {m c : Nat} {l : List UInt8} (h : BA (fun j => ¬ F j ∧ ¬ j = X) u1 p m c l) (hF2 : Next u1 F F2) (hk2 : Kp F u1 u2) (h24 : Grows u2 u4) (q5 : Kp (fun j => j = X) u4 u5) (h56 : Grows u5 u6) : BA (fun j => ¬ F2 j ∧ ¬ j = X) u6 p m c l := by
  have h1 : BA (fun j => (¬ F j ∧ ¬ j = X) ∧ j < u1.heap.size) u1 p m c l := h.mono fun j hj ha => ⟨ha, hj⟩
  have h2 : BA (fun j => ¬ F2 j ∧ ¬ j = X) u2 p m c l := (h1.keep hk2.size fun j hj ha => hk2.block j hj ha.1.1).mono fun j _ ha => ⟨fun hF => by
    rcases hF2 j hF with h | h
    · exact ha.1.1 h
    · have := ha.2
      omega, ha.1.2⟩
  have h4 := h2.grow h24
  exact (h4.keep q5.size fun j hj ha => q5.block j hj ha.2).grow h56
/-- At the beginning. -/
theorem Two.first {w0 v4 v5 : World} {X d r : Nat} {U F : Nat → Prop} {n : Int} (hn : 1 ≤ n ∧ n ≤ 4096) (S : StaD w0 v4 d r U F (DskS.new PowS.new n)) (hX : X = v4.heap.size) (b5 : Blk v5 X (dc (DskS.new PowS.new n) q0) 40) (k5 : Below v4.heap.size v4 v5) : Two w0 v5 X d r (3 * 0) U F (DskS.new PowS.new n) (DskS.new PowS.new n) q0 :=
  ⟨S.grow k5, fun h => by have := S.dk.lt X h; omega, by rw [hX]; exact S.bel.size, b5, RD.new _ _ _ _, DskS.fit_new hn, DskS.fit_new hn⟩
theorem StaD.bo {w0 w : World} {d r : Nat} {U F : Nat → Prop} {D : DskS} (h : StaD w0 w d r U F D) {a : Option Addr} {n c : Nat} {l : List Bool} (hb : BoW w0 a n c l) : BoA (fun j => ¬ F j) w a n c l := by
  have h2 := BoA.keep hb h.bel.size fun j hj _ => h.bel.block j hj
  exact ⟨h2.1, fun hn => by
    obtain ⟨y, e, ha, hy⟩ := h2.2 hn
    exact ⟨y, e, h.old _ ha, hy⟩⟩
theorem oc_one (x : OpS) (p : Option Addr) (m q : Nat) (a : Option Addr) (k c : Nat) : ∀ v ∈ oc x p m q a k c, v.oneCell' = true := by
  intro v hv
  simp only [oc, List.mem_cons, List.not_mem_nil, or_false] at hv
  rcases hv with rfl | rfl | rfl | rfl | rfl | rfl | rfl | rfl | rfl | rfl | rfl <;> rfl
def zOp : List Value := [.int .i64 0, .int .i64 0, .int .u8 0, .int .i64 0, .int .i64 0, .int .i64 0, .slice none 0 0, .int .i64 0, .int .i64 0, .bool false, .slice none 0 0]
theorem Two.flushed {w0 wr w' : World} {X d r mm : Nat} {U F U2 F2 : Nat → Prop} {D D1 E : DskS} {q : Quad} (T : Two w0 wr X d r mm U F D E q) (hd : Dk U2 F2 w' d r D1) (hU : Next wr U U2) (hF : Next wr F F2) (hk : Kp F wr w') (f1 : D1.fit (mm + 3)) : Two w0 w' X d r (mm + 3) U2 F2 D1 E q := by
  have hX : ¬ U2 X := fun h => by
    rcases hU X h with h | h
    · exact T.xu h
    · have := T.bx.lt
      omega
  have r0 : RD (fun j => (¬ F j ∧ ¬ j = X) ∧ j < wr.heap.size) wr E q := T.rd.mono fun j hj ha => ⟨ha, hj⟩
  exact ⟨T.sta.after hd hU hk, hX, T.xw, hk.blk T.bx T.xf, (r0.kp hk fun j hj => hj.1.1).mono fun j _ hj => ⟨fun h => by
    rcases hF j h with h | h
    · exact hj.1.1 h
    · have := hj.2
      omega, hj.1.2⟩, f1, T.fe.a_mono (by omega)⟩
theorem sizeO : (Try.prog.info? 50).map (·.size) = some 11 := by kernel_rfl
theorem u8_w (y : UInt8) : wrap64 (y.toNat : Int) = (y.toNat : Int) := by
  have : y.toNat < 256 := y.toNat_lt
  unfold wrap64
  omega
theorem u8_mod (y : UInt8) (n : Int) (hn : 0 < n) : 0 ≤ (y.toNat : Int).tmod n ∧ (y.toNat : Int).tmod n < n := by
  rw [Int.tmod_eq_emod_of_nonneg (by omega)]
  exact ⟨Int.emod_nonneg _ (by omega), Int.emod_lt_of_pos _ hn⟩
theorem u8_of {a : Int} (h : (Lit.int .u8 a).wf = true) : ∃ y : UInt8, a = (y.toNat : Int) := by
  have := bounds_u8 h
  exact ⟨UInt8.ofNat a.toNat, by rw [UInt8.toNat_ofNat']; omega⟩

end Go.Proofs.Ytfdilgnlfademaa

/-
  Two and three new variables in a region that draws its order: whichever is made first. No condition; no statement of the seat is proved here.
-/
namespace Go.Proofs.Ytfdilgnlfademaa
open Go.RowKit


theorem Grows.alloc (w : World) (o : Obj) : Grows w (w.alloc o) := below_alloc w o
theorem Blk.grows {w w' : World} {g : Nat} {vs : List Value} {t : TypeId} (h : Blk w g vs t) (hg : Grows w w') : Blk w' g vs t := h.below hg h.lt
theorem alloc1 {P : Program} {ops : Array Oper} {Q : Exit → Act → World → Prop} {md : Region.Mode} {S : World → Prop} (hS : ∀ w w', S w → Grows w w' → S w') {cells : Array Value} {t : TypeId} (i : Nat) (d : Tmp) (m : Makes P ops i d cells t) {fuel : Nat} {listed : Array Bool} {a : Act} {w : World} (hr : Region.ready md ops listed = [i])
    (h : ∀ g w', Grows w w' → S w' → Blk w' g cells.toList t → w.heap.size ≤ g → wpAnyG P md ops Q S fuel (listed.setIfInBounds i true) (a.put (some d) (.pointer (some ⟨g, 0, none⟩))) w') : wpAnyG P md ops Q S (fuel + 1) listed a w := by
  refine oneG i hr fun w' hg hs => m.op ⟨hS _ _ hs (Grows.alloc _ _), ?_⟩
  exact h _ _ (hg.trans (Grows.alloc _ _)) (hS _ _ hs (Grows.alloc _ _)) (Blk.new w' _ _) (Below.size hg)

theorem alloc2 {P : Program} {ops : Array Oper} {Q : Exit → Act → World → Prop} {md : Region.Mode} {S : World → Prop} (hS : ∀ w w', S w → Grows w w' → S w') {cells : Array Value} {t : TypeId} (i j : Nat) (d e : Tmp) (hij : i ≠ j) (hde : d ≠ e) (mi : Makes P ops i d cells t) (mj : Makes P ops j e cells t) {fuel : Nat} {listed : Array Bool} {a : Act} {w : World} (hr : Region.ready md ops listed = [i, j])
    (hi : Region.ready md ops (listed.setIfInBounds i true) = [j]) (hj : Region.ready md ops (listed.setIfInBounds j true) = [i])
    (h : ∀ g k w', Grows w w' → S w' → Blk w' g cells.toList t → Blk w' k cells.toList t → w.heap.size ≤ g → w.heap.size ≤ k → g ≠ k → wpAnyG P md ops Q S fuel ((listed.setIfInBounds i true).setIfInBounds j true) ((a.put (some d) (.pointer (some ⟨g, 0, none⟩))).put (some e) (.pointer (some ⟨k, 0, none⟩))) w') :
    wpAnyG P md ops Q S (fuel + 1 + 1) listed a w := by
  intro w' hg hs
  refine ⟨fun h0 => (by rw [h0] at hr; cases hr), fun x hx => ?_⟩
  rw [hr] at hx
  rcases List.mem_cons.1 hx with rfl | hx
  · refine mi.op ⟨hS _ _ hs (Grows.alloc _ _), alloc1 hS j e mj hi fun k w2 h2 hs2 b2 hk => ?_⟩
    have b1 := (Blk.new w' cells t).grows h2
    exact h _ k w2 (hg.trans ((Grows.alloc _ _).trans h2)) hs2 b1 b2 (Below.size hg) (Nat.le_trans (Below.size hg) (Nat.le_trans (by simp) hk)) (by rw [World.size_alloc] at hk; omega)
  · rw [List.mem_singleton.1 hx]
    refine mj.op ⟨hS _ _ hs (Grows.alloc _ _), alloc1 hS i d mi hj fun g w2 h2 hs2 b2 hk => ?_⟩
    have b1 := (Blk.new w' cells t).grows h2
    have := h g _ w2 (hg.trans ((Grows.alloc _ _).trans h2)) hs2 b2 b1 (Nat.le_trans (Below.size hg) (Nat.le_trans (by simp) hk)) (Below.size hg) (by rw [World.size_alloc] at hk; omega)
    rw [Array.setIfInBounds_comm _ _ hij, Act.put_comm a _ _ (fun z hz he => by cases hz; cases he; exact hde rfl)] at this
    exact this

theorem alloc3 {P : Program} {ops : Array Oper} {Q : Exit → Act → World → Prop} {md : Region.Mode} {S : World → Prop} (hS : ∀ w w', S w → Grows w w' → S w') {cells : Array Value} {t : TypeId} (i j k : Nat) (d e f : Tmp) (hij : i ≠ j) (hik : i ≠ k) (hjk : j ≠ k) (hde : d ≠ e) (hdf : d ≠ f) (hef : e ≠ f) (mi : Makes P ops i d cells t) (mj : Makes P ops j e cells t) (mk : Makes P ops k f cells t) {fuel : Nat} {listed : Array Bool} {a : Act} {w : World} (hr : Region.ready md ops listed = [i, j, k])
    (hi : Region.ready md ops (listed.setIfInBounds i true) = [j, k]) (hj : Region.ready md ops (listed.setIfInBounds j true) = [i, k]) (hk : Region.ready md ops (listed.setIfInBounds k true) = [i, j])
    (hi1 : Region.ready md ops ((listed.setIfInBounds i true).setIfInBounds j true) = [k]) (hi2 : Region.ready md ops ((listed.setIfInBounds i true).setIfInBounds k true) = [j]) (hi3 : Region.ready md ops ((listed.setIfInBounds j true).setIfInBounds k true) = [i])
    (h : ∀ g0 g1 g2 w', Grows w w' → S w' → Blk w' g0 cells.toList t → Blk w' g1 cells.toList t → Blk w' g2 cells.toList t → w.heap.size ≤ g0 → w.heap.size ≤ g1 → w.heap.size ≤ g2 → g0 ≠ g1 → g0 ≠ g2 → g1 ≠ g2 → wpAnyG P md ops Q S fuel (((listed.setIfInBounds i true).setIfInBounds j true).setIfInBounds k true) (((a.put (some d) (.pointer (some ⟨g0, 0, none⟩))).put (some e) (.pointer (some ⟨g1, 0, none⟩))).put (some f) (.pointer (some ⟨g2, 0, none⟩))) w') :
    wpAnyG P md ops Q S (fuel + 1 + 1 + 1) listed a w := by
  have pc : ∀ (b : Act) {x y : Tmp} (u v : Value), x ≠ y → (b.put (some x) u).put (some y) v = (b.put (some y) v).put (some x) u := fun b x y u v hxy => Act.put_comm b u v (fun z hz he => by cases hz; cases he; exact hxy rfl)
  intro w' hg hs
  refine ⟨fun h0 => (by rw [h0] at hr; cases hr), fun x hx => ?_⟩
  rw [hr] at hx
  rcases List.mem_cons.1 hx with rfl | hx
  · refine mi.op ⟨hS _ _ hs (Grows.alloc _ _), alloc2 hS j k e f hjk hef mj mk hi hi1 hi2 fun g1 g2 w2 h2 hs2 b2 b3 h1 h3 hne => ?_⟩
    have b1 := (Blk.new w' cells t).grows h2
    rw [World.size_alloc] at h1 h3
    have hw := Below.size hg
    exact h _ g1 g2 w2 (hg.trans ((Grows.alloc _ _).trans h2)) hs2 b1 b2 b3 hw (by omega) (by omega) (by omega) (by omega) hne
  · rcases List.mem_cons.1 hx with rfl | hx
    · refine mj.op ⟨hS _ _ hs (Grows.alloc _ _), alloc2 hS i k d f hik hdf mi mk hj (by rw [Array.setIfInBounds_comm _ _ (Ne.symm hij)]; exact hi1) hi3 fun g0 g2 w2 h2 hs2 b2 b3 h1 h3 hne => ?_⟩
      have b1 := (Blk.new w' cells t).grows h2
      rw [World.size_alloc] at h1 h3
      have hw := Below.size hg
      have := h g0 _ g2 w2 (hg.trans ((Grows.alloc _ _).trans h2)) hs2 b2 b1 b3 (by omega) hw (by omega) (by omega) hne (by omega)
      rw [Array.setIfInBounds_comm _ _ hij, pc a _ _ hde] at this
      exact this
    · rw [List.mem_singleton.1 hx]
      refine mk.op ⟨hS _ _ hs (Grows.alloc _ _), alloc2 hS i j d e hij hde mi mj hk (by rw [Array.setIfInBounds_comm _ _ (Ne.symm hik)]; exact hi2) (by rw [Array.setIfInBounds_comm _ _ (Ne.symm hjk)]; exact hi3) fun g0 g1 w2 h2 hs2 b2 b3 h1 h3 hne => ?_⟩
      have b1 := (Blk.new w' cells t).grows h2
      rw [World.size_alloc] at h1 h3
      have hw := Below.size hg
      have := h g0 g1 _ w2 (hg.trans ((Grows.alloc _ _).trans h2)) hs2 b2 b3 b1 (by omega) (by omega) hw hne (by omega) (by omega)
      rw [Array.setIfInBounds_comm _ _ hjk, Array.setIfInBounds_comm _ _ hik, pc _ _ _ hef, pc a _ _ hdf] at this
      exact this
end Go.Proofs.Ytfdilgnlfademaa
