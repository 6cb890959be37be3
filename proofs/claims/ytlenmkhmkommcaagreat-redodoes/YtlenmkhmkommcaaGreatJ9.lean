/-
  8 texts in one. No statement of the seat is proved here.
-/
import Derived.Test.YtlenmkhmkommcaaGreatJ8
import Derived.Defers
import Derived.Recover
import Derived.MapKept
import Derived.Maps.OwnOps
import Derived.Maps.AppendAt
/-
  Plain mathematics of layer 9: how much an act may grow a disk. No condition; nothing of the program.
-/
namespace Go.Proofs.YtlenmkhmkommcaaGreat
open Go.RowKit

def OpS.block (o : OpS) : List UInt8 := if o.n.tmod 9 = 4 then (like o.c).tail else like o.c
def DskS.act (D : DskS) (o : OpS) : DskS :=
  if o.kind = 0 then (D.read o.at_).1 else if o.kind = 1 then (D.write o.at_ o.block).1 else if o.kind = 2 then D.flushed else if o.kind = 3 then D.poke o.x
  else if o.kind = 4 then { D with p := D.p.set o.n o.done } else if o.kind = 5 then { D.crash o.keep with p := D.p.back } else D
theorem DskS.fit.a_mono {D : DskS} {m n : Nat} (h : D.fit m) (hm : m ≤ n) : D.fit n :=
  ⟨PowS.fit_mono h.p hm, h.n, by have := h.safe; omega, by have := h.loose; omega, by have := h.seen; omega, h.plot, by have := h.steps; omega⟩
theorem DskS.fit_new {n : Int} (hn : 1 ≤ n ∧ n ≤ 4096) : (DskS.new PowS.new n).fit 0 := ⟨PowS.fit_new, hn, Nat.le_refl _, Nat.le_refl _, Nat.le_refl _, Nat.zero_le _, Nat.le_refl _⟩
theorem DskS.fit.a_tick {D : DskS} {m : Nat} (h : D.fit m) : D.tick.fit (m + 1) := by
  obtain ⟨a1, a2, a3, a4, a5⟩ := tick_len D
  have h1 := h.safe
  have h2 := h.loose
  have h3 := h.seen
  have h4 := h.plot
  have h5 := h.steps
  refine ⟨PowS.fit_next h.p, by rw [a3]; exact h.n, by omega, by omega, by rw [a4]; omega, by rw [a5]; exact h4, ?_⟩
  show (if D.p.down then D.steps else D.steps + 1) ≤ m + 1
  split <;> omega
theorem DskS.fit.a_see {D : DskS} {m : Nat} (h : D.fit m) (t : Tch) : (D.see t).fit (m + 1) :=
  ⟨PowS.fit_mono h.p (by omega), h.n, by have := h.safe; show D.safe.length ≤ _; omega, by have := h.loose; show D.loose.length ≤ _; omega, by have := h.seen; show (D.seen ++ [t]).length ≤ _; rw [List.length_append]; simp; omega, h.plot, by have := h.steps; show D.steps ≤ _; omega⟩
theorem DskS.fit.a_done {D : DskS} {m : Nat} (h : D.fit m) (t : Tch) : (D.done t).fit (m + 2) := by
  unfold DskS.done
  split
  · exact h.a_tick.a_see t
  · exact h.a_tick.a_mono (by omega)
theorem DskS.fit.a_read {D : DskS} {m : Nat} (h : D.fit m) (at_ : Int) : (D.read at_).1.fit (m + 3) := by
  unfold DskS.read
  split
  · exact h.a_mono (by omega)
  · split <;> exact (h.a_done _).a_mono (by omega)
theorem DskS.fit.a_write {D : DskS} {m : Nat} (h : D.fit m) (at_ : Int) (b : List UInt8) : (D.write at_ b).1.fit (m + 3) := by
  unfold DskS.write
  split
  · exact h.a_mono (by omega)
  · split
    · exact h.a_mono (by omega)
    · show (D.wrote at_ b).fit (m + 3)
      unfold DskS.wrote
      have ht := h.a_tick
      split
      · have h2 := ht.a_see (1, at_, b)
        exact ⟨PowS.fit_mono h2.p (by omega), h2.n, by have := h2.safe; show (D.tick.see (1, at_, b)).safe.length ≤ _; omega, by have := ht.loose; show (D.tick.loose ++ [(at_, b)]).length ≤ _; rw [List.length_append]; simp; omega, by have := h2.seen; show (D.tick.see (1, at_, b)).seen.length ≤ _; omega, h2.plot, by have := h2.steps; show (D.tick.see (1, at_, b)).steps ≤ _; omega⟩
      · exact ht.a_mono (by omega)
theorem DskS.fit.a_flushed {D : DskS} {m : Nat} (h : D.fit m) (hm : m ≤ 280) : D.flushed.fit (m + 3) := by
  unfold DskS.flushed
  have ht := h.a_tick
  split
  · obtain ⟨a1, a2, a3, a4, a5⟩ := tick_len D
    obtain ⟨b1, b2, b3, b4, b5, b6, b7⟩ := settles_len D.tick.loose D.tick
    have h1 := h.safe
    have h2 := h.loose
    have h4 := h.plot
    refine ⟨?_, ?_, ?_, Nat.zero_le _, ?_, ?_, ?_⟩
    · show ((D.tick.settles D.tick.loose).p).fit (m + 3)
      rw [b3]
      exact PowS.fit_mono ht.p (by omega)
    · show 1 ≤ (D.tick.settles D.tick.loose).n ∧ (D.tick.settles D.tick.loose).n ≤ 4096
      rw [b5]
      exact ht.n
    · show (D.tick.settles D.tick.loose).safe.length ≤ 100 * (m + 3)
      omega
    · show ((D.tick.settles D.tick.loose).seen ++ [_]).length ≤ m + 3
      rw [b6, List.length_append]
      have := ht.seen
      simp
      omega
    · show (D.tick.settles D.tick.loose).plot.length ≤ 20
      rw [b7]
      exact ht.plot
    · show (D.tick.settles D.tick.loose).steps ≤ m + 3
      rw [b4]
      have := ht.steps
      omega
  · exact ht.a_mono (by omega)
theorem DskS.fit.a_poke {D : DskS} {m : Nat} (h : D.fit m) (x : Pok) : (D.poke x).fit (m + 1) := by
  obtain ⟨a1, a2, a3, a4, a5, a6, a7⟩ := poke_len D x
  have h1 := h.safe
  have h2 := h.loose
  have h3 := h.seen
  have h5 := h.steps
  exact ⟨by rw [a3]; exact PowS.fit_mono h.p (by omega), by rw [a5]; exact h.n, by omega, by omega, by rw [a6]; omega, by rw [a7]; exact h.plot, by rw [a4]; omega⟩
theorem DskS.fit.a_crash {D : DskS} {m : Nat} (h : D.fit m) (hm : m ≤ 280) (b : List Bool) : (D.crash b).fit (m + 3) := by
  obtain ⟨b1, b2, b3, b4, b5, b6, b7⟩ := settles_len (kept D.loose b) D
  have hk := kept_len D.loose b
  have h1 := h.safe
  have h2 := h.loose
  have h3 := h.seen
  have h5 := h.steps
  refine ⟨?_, ?_, ?_, Nat.zero_le _, ?_, ?_, ?_⟩
  · show ((D.settles (kept D.loose b)).p).fit (m + 3)
    rw [b3]
    exact PowS.fit_mono h.p (by omega)
  · show 1 ≤ (D.settles (kept D.loose b)).n ∧ (D.settles (kept D.loose b)).n ≤ 4096
    rw [b5]
    exact h.n
  · show (D.settles (kept D.loose b)).safe.length ≤ 100 * (m + 3)
    omega
  · show (D.settles (kept D.loose b)).seen.length ≤ m + 3
    rw [b6]
    omega
  · show (D.settles (kept D.loose b)).plot.length ≤ 20
    rw [b7]
    exact h.plot
  · show (D.settles (kept D.loose b)).steps ≤ m + 3
    rw [b4]
    omega
end Go.Proofs.YtlenmkhmkommcaaGreat

/-
  Plain mathematics of layer 9: what is flushed stays; a crash keeps whole blocks. No condition; nothing of the program.
-/
namespace Go.Proofs.YtlenmkhmkommcaaGreat
open Go.RowKit

theorem ago_settle {D : DskS} {at_ k : Int} (h : ¬ at_ = k) (b : List UInt8) (j : Nat) : (D.settle at_ b).ago k j = D.ago k j := by
  unfold DskS.ago DskS.settle
  dsimp only
  rw [List.reverse_append, List.reverse_singleton, List.singleton_append]
  exact agoR_miss h
theorem ago_settles {k : Int} : ∀ {l : List Chg} {D : DskS}, (∀ c ∈ l, ¬ c.1 = k) → ∀ j, (D.settles l).ago k j = D.ago k j
  | [], _, _, _ => rfl
  | c :: l, D, h, j => by
    have e : D.settles (c :: l) = (D.settle c.1 c.2).settles l := rfl
    rw [e, ago_settles (fun x hx => h x (by simp [hx])), ago_settle (h c (by simp))]
theorem look_none {k : Int} : ∀ {l : List Chg}, (∀ c ∈ l, ¬ c.1 = k) → lookR l k = none
  | [], _ => rfl
  | c :: l, h => by rw [lookR_miss (h c (by simp))]; exact look_none fun x hx => h x (by simp [hx])
/-- Block k is safe, holds V, and nobody else plots. -/
structure DskS.firm (D : DskS) (k : Int) (V : List UInt8) : Prop where
  loose : ∀ c ∈ D.loose, ¬ c.1 = k
  ago : D.ago k 0 = V
  plot : D.plot = []
theorem DskS.firm.look {D : DskS} {k : Int} {V : List UInt8} (h : D.firm k V) : D.look k = V := by
  unfold DskS.look
  rw [look_none fun c hc => h.loose c (by simpa using hc)]
  exact h.ago
theorem tick_same {D : DskS} (h : D.plot = []) : D.tick.safe = D.safe ∧ D.tick.loose = D.loose ∧ D.tick.plot = [] ∧ D.tick.n = D.n := by
  unfold DskS.tick
  rw [h]
  exact ⟨rfl, rfl, h, rfl⟩
theorem DskS.firm.tick {D : DskS} {k : Int} {V : List UInt8} (h : D.firm k V) : D.tick.firm k V := by
  obtain ⟨a1, a2, a3, _⟩ := tick_same h.plot
  exact ⟨by rw [a2]; exact h.loose, by unfold DskS.ago; rw [a1]; exact h.ago, a3⟩
theorem DskS.firm.see {D : DskS} {k : Int} {V : List UInt8} (h : D.firm k V) (t : Tch) : (D.see t).firm k V := ⟨h.loose, h.ago, h.plot⟩
theorem DskS.firm.done {D : DskS} {k : Int} {V : List UInt8} (h : D.firm k V) (t : Tch) : (D.done t).firm k V := by
  unfold DskS.done
  split
  · exact h.tick.see t
  · exact h.tick
theorem DskS.firm.read {D : DskS} {k : Int} {V : List UInt8} (h : D.firm k V) (at_ : Int) : (D.read at_).1.firm k V := by
  unfold DskS.read
  split
  · exact h
  · split <;> exact h.done _
theorem DskS.firm.write {D : DskS} {k : Int} {V : List UInt8} (h : D.firm k V) {at_ : Int} (hk : ¬ at_ = k) (b : List UInt8) : (D.write at_ b).1.firm k V := by
  unfold DskS.write
  split
  · exact h
  · split
    · exact h
    · show (D.wrote at_ b).firm k V
      unfold DskS.wrote
      have ht := h.tick
      split
      · refine ⟨fun c hc => ?_, ht.ago, ht.plot⟩
        rcases List.mem_append.1 hc with hc | hc
        · exact ht.loose c hc
        · rw [List.mem_singleton.1 hc]
          exact hk
      · exact ht
theorem DskS.firm.flushed {D : DskS} {k : Int} {V : List UInt8} (h : D.firm k V) : D.flushed.firm k V := by
  unfold DskS.flushed
  have ht := h.tick
  split
  · refine ⟨fun c hc => (by cases hc), ?_, ?_⟩
    · exact (ago_settles ht.loose 0).trans ht.ago
    · exact (settles_len D.tick.loose D.tick).2.2.2.2.2.2.trans ht.plot
  · exact ht
theorem DskS.firm.poke {D : DskS} {k : Int} {V : List UInt8} (h : D.firm k V) {x : Pok} (hk : ¬ x.at_ = k) : (D.poke x).firm k V := by
  unfold DskS.poke
  split
  · exact h
  · refine ⟨fun c hc => h.loose c (List.mem_filter.1 hc).1, ?_, h.plot⟩
    exact (ago_settle hk _ 0).trans h.ago
theorem kept_mem : ∀ {l : List Chg} {b : List Bool} {c : Chg}, c ∈ kept l b → c ∈ l
  | [], b, c, h => by cases b with | nil => cases h | cons x b => cases h
  | a :: l, [], c, h => by cases h
  | a :: l, true :: b, c, h => by
    rcases List.mem_cons.1 h with rfl | h
    · simp
    · exact List.mem_cons_of_mem _ (kept_mem h)
  | a :: l, false :: b, c, h => List.mem_cons_of_mem _ (kept_mem (show c ∈ kept l b from h))
theorem DskS.firm.crash {D : DskS} {k : Int} {V : List UInt8} (h : D.firm k V) (b : List Bool) : (D.crash b).firm k V :=
  ⟨fun c hc => (by cases hc), (ago_settles (fun c hc => h.loose c (kept_mem hc)) 0).trans h.ago, (settles_len (kept D.loose b) D).2.2.2.2.2.2.trans h.plot⟩
/-- The act is of block k. -/
def OpS.on (o : OpS) (k : Int) : Prop := (o.kind = 1 ∧ o.at_ = k) ∨ (o.kind = 3 ∧ o.x.at_ = k)
theorem DskS.firm.act {D : DskS} {k : Int} {V : List UInt8} (h : D.firm k V) {o : OpS} (ho : ¬ o.on k) : (D.act o).firm k V := by
  unfold DskS.act
  split
  · exact h.read _
  split
  · rename_i h1
    exact h.write (fun e => ho (Or.inl ⟨h1, e⟩)) _
  split
  · exact h.flushed
  split
  · rename_i h3
    exact h.poke (fun e => ho (Or.inr ⟨h3, e⟩))
  split
  · exact ⟨h.loose, h.ago, h.plot⟩
  split
  · have h' := h.crash o.keep
    exact ⟨h'.loose, h'.ago, h'.plot⟩
  · exact h
theorem ok_does {S : PowS} (h : S.ok = true) : S.does = true := by
  unfold PowS.ok at h
  unfold PowS.does
  cases hd : S.down <;> simp_all
end Go.Proofs.YtlenmkhmkommcaaGreat

/-
  Plain mathematics of layer 9's three statements: what acts keep, what two writes behind a crash leave. No condition; nothing of the program.
-/
namespace Go.Proofs.YtlenmkhmkommcaaGreat
open Go.RowKit

theorem done_same (D : DskS) (t : Tch) : (D.done t).n = D.n ∧ (D.done t).plot = D.plot := by
  obtain ⟨_, _, a3, _, a5⟩ := tick_len D
  unfold DskS.done
  split
  · exact ⟨a3, a5⟩
  · exact ⟨a3, a5⟩
theorem write_n (D : DskS) (k : Int) (b : List UInt8) : (D.write k b).1.n = D.n := by
  obtain ⟨_, _, a3, _, _⟩ := tick_len D
  unfold DskS.write
  split
  · rfl
  · split
    · rfl
    · show (D.wrote k b).n = D.n
      unfold DskS.wrote
      split <;> exact a3
theorem flushed_n (D : DskS) : D.flushed.n = D.n := by
  obtain ⟨_, _, a3, _, _⟩ := tick_len D
  unfold DskS.flushed
  split
  · exact (settles_len D.tick.loose D.tick).2.2.2.2.1.trans a3
  · exact a3
/-- The disk behind a crash that keeps nothing, the power there again. -/
def DskS.fresh (D : DskS) : DskS := { D.crash [] with p := D.p.back }
theorem wrote_at {D : DskS} (hp : D.plot = []) (hd : D.p.does = true) (k : Int) (b : List UInt8) : (D.wrote k b).loose = D.loose ++ [(k, b)] ∧ (D.wrote k b).safe = D.safe ∧ (D.wrote k b).plot = [] ∧ (D.wrote k b).n = D.n ∧ (D.wrote k b).p = D.p.next := by
  obtain ⟨a1, a2, a3, a4⟩ := tick_same hp
  unfold DskS.wrote
  rw [if_pos hd]
  exact ⟨by show D.tick.loose ++ _ = _; rw [a2], a1, a3, a4, rfl⟩
theorem write_code {D : DskS} {k : Int} {b : List UInt8} (hk : 0 ≤ k ∧ k < D.n) (hb : b.length = 512) : D.write k b = (D.wrote k b, if D.p.ok then 0 else 5) := by
  unfold DskS.write
  rw [if_neg (by omega), if_neg (by simp [hb])]
end Go.Proofs.YtlenmkhmkommcaaGreat

/-
  The contracts of layer 8's program. Conditions: fewer than 2^40 steps, numbers of the language; what a step does returns, and leaves the power's block alone.
-/
namespace Go.Proofs.YtlenmkhmkommcaaGreat
open Go.RowKit

/-- The power in block r: down, fused, ahead, done; steps. Where it has gone, the fuse is of no matter. -/
def Pw (w : World) (r : Nat) (S : PowS) : Prop := ∃ (b : Bool) (a : Int), (-9223372036854775808 ≤ a ∧ a ≤ 9223372036854775807) ∧ (S.down = false → b = decide (0 ≤ S.fuse) ∧ (0 ≤ S.fuse → a = S.fuse)) ∧ Blk w r [.bool S.down, .bool b, .int .i64 a, .bool S.done, .int .i64 (S.steps : Int)] 87
theorem Pw.lt {w : World} {r : Nat} {S : PowS} (h : Pw w r S) : r < w.heap.size := by
  obtain ⟨b, a, _, _, hb⟩ := h
  exact hb.lt
theorem Pw.same {w w' : World} {r : Nat} {S : PowS} (h : Pw w r S) (e : w'.heap[r]? = w.heap[r]?) : Pw w' r S := by
  obtain ⟨b, a, h1, h2, hb⟩ := h
  refine ⟨b, a, h1, h2, ?_⟩
  unfold Blk
  rw [e]
  exact hb

theorem kp_set (w : World) (r i : Nat) (v : Value) : Kp (fun k => k = r) w (w.setCell ⟨r, i, none⟩ v) := Kp.of_grown (but_set w r i v)
set_option maxRecDepth 100000 in
theorem oPNew (w : World) : Calls Tryz.prog 7 #[] w fun e w' => ∃ r, e = .returned (.pointer (some ⟨r, 0, none⟩)) ∧ w.heap.size ≤ r ∧ Pw w' r PowS.new ∧ Below w.heap.size w w' := by
  go_enter Tryz.func7, Tryz.ntmps7
  go_wp2_with fail
  go_ret
  refine ⟨w.heap.size, rfl, Nat.le_refl _, ⟨false, 0, by decide, fun _ => ⟨rfl, fun h => absurd h (by decide)⟩, Blk.new w _ _⟩, below_alloc _ _⟩
set_option maxRecDepth 100000 in
theorem oPDown (w : World) {r : Nat} {S : PowS} (h : Pw w r S) : Calls Tryz.prog 115 #[.pointer (some ⟨r, 0, none⟩)] w fun e w' => e = .returned (.bool S.down) ∧ w' = w := by
  obtain ⟨b, a, h1, h2, hb⟩ := h
  obtain ⟨n, F, d, g⟩ := S
  dsimp only at hb ⊢
  clear h2
  have hl := hb.lt
  have c0 := hb.cell 0
  simp only [List.getElem?_cons_zero] at c0
  go_enter Tryz.func115, Tryz.ntmps115
  go_wp2_with fail
  go_ret
  exact ⟨rfl, rfl⟩
set_option maxRecDepth 100000 in
theorem oPFuse (w : World) {r : Nat} {S : PowS} (h : Pw w r S) (n : Int) (d : Bool) (hn : -9223372036854775808 ≤ n ∧ n ≤ 9223372036854775807) : Calls Tryz.prog 13 #[.pointer (some ⟨r, 0, none⟩), .int .i64 n, .bool d] w fun e w' => e = .returned (.tuple #[]) ∧ Pw w' r (S.set n d) ∧ Kp (fun k => k = r) w w' := by
  obtain ⟨b, a, h1, h2, hb⟩ := h
  obtain ⟨m, F, d0, g⟩ := S
  dsimp only at hb h2
  clear h2
  have hl := hb.lt
  have c0 := hb.cell 0
  have c1 := hb.cell 1
  have c2 := hb.cell 2
  have c3 := hb.cell 3
  have z0 := hb.free 0
  have z1 := hb.free 1
  have z2 := hb.free 2
  have z3 := hb.free 3
  simp only [List.getElem?_cons_zero, List.getElem?_cons_succ] at c0 c1 c2 c3
  go_enter Tryz.func13, Tryz.ntmps13
  go_wp2_with fail
  go_end0
  refine ⟨rfl, ⟨decide (0 ≤ n), n, hn, fun _ => ?_, (((hb.setC 0 _).setC 1 _).setC 2 _).setC 3 _⟩, ?_⟩
  · unfold PowS.set
    dsimp only
    by_cases h0 : n < 0
    · rw [if_pos h0, decide_eq_false (by omega)]
      exact ⟨rfl, fun h => absurd h (by omega)⟩
    · rw [if_neg h0]
      exact ⟨rfl, fun _ => rfl⟩
  · exact (((kp_set w r 0 _).trans (kp_set _ r 1 _)).trans (kp_set _ r 2 _)).trans (kp_set _ r 3 _)
set_option maxRecDepth 100000 in
theorem oPBack (w : World) {r : Nat} {S : PowS} (h : Pw w r S) : Calls Tryz.prog 19 #[.pointer (some ⟨r, 0, none⟩)] w fun e w' => e = .returned (.tuple #[]) ∧ Pw w' r S.back ∧ Kp (fun k => k = r) w w' := by
  obtain ⟨b, a, h1, h2, hb⟩ := h
  obtain ⟨m, F, d0, g⟩ := S
  dsimp only at hb h2
  clear h2
  have hl := hb.lt
  have c0 := hb.cell 0
  have c1 := hb.cell 1
  have c2 := hb.cell 2
  have c3 := hb.cell 3
  have z0 := hb.free 0
  have z1 := hb.free 1
  have z2 := hb.free 2
  have z3 := hb.free 3
  simp only [List.getElem?_cons_zero, List.getElem?_cons_succ] at c0 c1 c2 c3
  go_enter Tryz.func19, Tryz.ntmps19
  go_wp2_with fail
  go_end0
  refine ⟨rfl, ⟨false, 0, by decide, fun _ => ⟨rfl, fun h => absurd h (by show ¬ (0 : Int) ≤ -1; omega)⟩, (((hb.setC 0 _).setC 1 _).setC 2 _).setC 3 _⟩, ?_⟩
  exact (((kp_set w r 0 _).trans (kp_set _ r 1 _)).trans (kp_set _ r 2 _)).trans (kp_set _ r 3 _)
/-- The fuse burns by a step. -/
theorem oBurn (w : World) {r : Nat} {b d : Bool} {a n : Int} (ha : -9223372036854775808 ≤ a ∧ a ≤ 9223372036854775807) (hb : Blk w r [.bool false, .bool b, .int .i64 a, .bool d, .int .i64 n] 87) :
    Calls Tryz.prog 137 #[.pointer (some ⟨r, 0, none⟩)] w fun e w' => e = .returned (.bool (b && decide (a ≤ 0))) ∧ Blk w' r [.bool (b && decide (a ≤ 0)), .bool b, .int .i64 (if b && decide (0 < a) then a - 1 else a), .bool d, .int .i64 n] 87 ∧ Kp (fun k => k = r) w w' := by
  have hl := hb.lt
  have c0 := hb.cell 0
  have c1 := hb.cell 1
  have c2 := hb.cell 2
  have z0 := hb.free 0
  have z2 := hb.free 2
  simp only [List.getElem?_cons_zero, List.getElem?_cons_succ] at c0 c1 c2
  cases b with
  | false =>
    go_enter Tryz.func137, Tryz.ntmps137
    go_wp2_with fail
    go_ret
    exact ⟨rfl, hb, Kp.refl _ _⟩
  | true =>
    by_cases h0 : 0 < a
    · rw [decide_eq_false (by omega), decide_eq_true h0]
      go_enter Tryz.func137, Tryz.ntmps137
      go_wp2_with fail
      go_ret
      exact ⟨rfl, hb.setC 2 _, kp_set w r 2 _⟩
    · rw [decide_eq_true (show a ≤ 0 by omega), decide_eq_false h0]
      go_enter Tryz.func137, Tryz.ntmps137
      go_wp2_with fail
      go_ret
      exact ⟨rfl, hb.setC 0 _, kp_set w r 0 _⟩
/-- What is deferred behind what a step does: no panic is there. -/
theorem dIdle (w : World) : CallsD Tryz.prog 155 #[] .returning w fun e u' w' => e = .returned (.tuple #[]) ∧ u' = .returning ∧ w' = w := by
  refine callsD_of_wpS Tryz.func155 rfl fun c₀ cs hu => ?_
  apply wpS_region
  simp [wpOpsS, go_sem, recoverD, hu, Tryz.ntmps155]
  cases c₀
  simp_all [bodyPostS, results, Tryz.results155]
/-- What a step does is called. -/
theorem oDo (w : World) (F : Nat) (caps : Array Value) (eF : ∀ args w, (callFunc F args).run Tryz.prog w = .ok (.enter F args) w) (R : World → Prop) (hdo : Calls Tryz.prog F caps w fun e w2 => e = .returned (.tuple #[]) ∧ R w2) :
    Calls Tryz.prog 138 #[.func (.func F) #[] caps] w fun e w2 => e = .returned (.tuple #[]) ∧ R w2 := by
  go_enter_defers Tryz.func138, Tryz.ntmps138
  go_wp2_with fail
  refine hdo.mono ?_
  rintro e w2 ⟨rfl, hR⟩
  go_wp2_with fail
  refine leaves_cons (f := 155) (args := #[]) (by simp) (by simp [go_sem]) ?_
  refine (dIdle w2).mono ?_
  rintro e u' w'' ⟨rfl, rfl, rfl⟩
  simp [Leaves, settle, results, Tryz.results138, go_sem]
  exact hR
/-- What a step did. -/
def DoesP (S : PowS) (r : Nat) (R : World → World → Prop) (w w' : World) : Prop := if S.does then ∃ w1 w2, Kp (fun k => k = r) w w1 ∧ R w1 w2 ∧ Kp (fun k => k = r) w2 w' else Kp (fun k => k = r) w w'
end Go.Proofs.YtlenmkhmkommcaaGreat

/-
  Memory of an object: what was new, or was there ('Next'); what was not written stays ('BA.after'). No condition; no statement of the seat is proved here.
-/
namespace Go.Proofs.YtlenmkhmkommcaaGreat
open Go.RowKit

/-- What was new, or was there. -/
def Next (w : World) (P P' : Nat → Prop) : Prop := ∀ j, P' j → P j ∨ w.heap.size ≤ j
theorem Next.of {w w1 : World} {P P' : Nat → Prop} (h : Next w1 P P') (hs : w.heap.size ≤ w1.heap.size) : Next w P P' := fun j hj => (h j hj).imp id fun h => Nat.le_trans hs h
theorem Kp.newer {F G : Nat → Prop} {w a b : World} (h : Kp F w a) (k : Kp G a b) (hG : ∀ j, G j → w.heap.size ≤ j) : Kp F w b :=
  ⟨k.os.trans h.os, k.tape.trans h.tape, k.output.trans h.output, Nat.le_trans h.size k.size, fun i hi hn => (k.block i (Nat.lt_of_lt_of_le hi h.size) (fun hg => by have := hG i hg; omega)).trans (h.block i hi hn)⟩
/-- What was not written stays, and is not written from then on. -/
theorem BA.after {F F' : Nat → Prop} {w w' : World} {p : Option Addr} {m q : Nat} {b : List UInt8} (h : BA (fun j => ¬ F j) w p m q b) (k : Kp F w w') (n : Next w F F') : BA (fun j => ¬ F' j) w' p m q b := by
  have h1 : BA (fun j => ¬ F j ∧ j < w.heap.size) w p m q b := h.mono fun j hj ha => ⟨ha, hj⟩
  refine (h1.keep k.size fun j hj ha => k.block j hj ha.1).mono fun j _ ha hF => ?_
  rcases n j hF with h | h
  · exact ha.1 h
  · have := ha.2
    omega
theorem BA.grow {A : Nat → Prop} {w w' : World} {p : Option Addr} {m q : Nat} {b : List UInt8} (h : BA A w p m q b) (k : Below w.heap.size w w') : BA A w' p m q b := h.keep k.size fun j hj _ => k.block j hj

end Go.Proofs.YtlenmkhmkommcaaGreat

/-
  Maps whose keys are whole numbers, whatever their values are: what a key has ('Mp'), a map made, asked and written. No condition; no statement of the seat is proved here.
-/
namespace Go.Proofs.YtlenmkhmkommcaaGreat
open Go.RowKit
open Go.MapKept (IsKey run_checkKey run_findKey run_setObj_map heap_set isKey_modify run_keyThatStays)

/-- What the first entry of key k has. -/
def entI (k : Int) : List MapEntry → Option Value
  | [] => none
  | e :: l => if Instr.sameNow (.int .i64) (.int .i64 k) e.key = some true then some e.val else entI k l
/-- Block m is a map: key k has f k. -/
def Mp (w : World) (m : Nat) (f : Int → Option Value) : Prop := ∃ es clock, w.heap[m]? = some (.map es clock) ∧ (∀ x ∈ es.toList, IsKey (.int .i64) x.key) ∧ ∀ k, entI k es.toList = f k
/-- Key k has v from now on. -/
def updI (f : Int → Option Value) (k : Int) (v : Value) : Int → Option Value := fun j => if j = k then some v else f j
theorem key_i {e : MapEntry} (h : IsKey (.int .i64) e.key) : ∃ j, e.key = .int .i64 j := by
  cases hk : e.key <;> rw [hk] at h <;> simp [IsKey] at h
  exact ⟨_, by rw [h]⟩
theorem same_i (k j : Int) : Instr.sameNow (.int .i64) (.int .i64 k) (.int .i64 j) = some (k == j) := by simp [Instr.sameNow]
theorem find_i (k : Int) : ∀ (l : List MapEntry) (i : Nat), (∀ x ∈ l, IsKey (.int .i64) x.key) →
    (Instr.findNow (.int .i64) (.int .i64 k) l i = some none ∧ entI k l = none) ∨
    ∃ j e, Instr.findNow (.int .i64) (.int .i64 k) l i = some (some (i + j, e.val)) ∧ l[j]? = some e ∧ e.key = .int .i64 k ∧ entI k l = some e.val ∧ ∀ (x : MapEntry), x.key = .int .i64 k → ∀ k', entI k' (l.set j x) = if k' = k then some x.val else entI k' l
  | [], _, _ => Or.inl ⟨rfl, rfl⟩
  | e :: l, i, h => by
    obtain ⟨j, hj⟩ := key_i (h e (.head _))
    by_cases hkj : k = j
    · subst hkj
      refine Or.inr ⟨0, e, by simp [Instr.findNow, hj, same_i], rfl, hj, by simp [entI, hj, same_i], fun x hx k' => ?_⟩
      by_cases hk : k' = k
      · subst hk
        simp [entI, hx, same_i]
      · simp [entI, hx, hj, same_i, hk]
    · have hb : (k == j) = false := by simp [hkj]
      rcases find_i k l (i + 1) (fun x hx => h x (.tail _ hx)) with ⟨h1, h2⟩ | ⟨n, e', h1, h2, h3, h4, h5⟩
      · exact Or.inl ⟨by simp [Instr.findNow, hj, same_i, hb, h1], by simp [entI, hj, same_i, hkj, h2]⟩
      · refine Or.inr ⟨n + 1, e', by simp [Instr.findNow, hj, same_i, hb, h1]; omega, by simpa using h2, h3, by simp [entI, hj, same_i, hkj, h4], fun x hx k' => ?_⟩
        by_cases hk : k' = j
        · subst hk
          have : ¬ k' = k := fun e => hkj e.symm
          simp [entI, hj, same_i, this]
        · have := h5 x hx k'
          simp [entI, hj, same_i, hk, this]
theorem entI_push (k' : Int) {x : MapEntry} {k : Int} (hx : x.key = .int .i64 k) : ∀ {l : List MapEntry}, entI k l = none → entI k' (l ++ [x]) = if k' = k then some x.val else entI k' l
  | [], _ => by simp [entI, hx, same_i]
  | e :: l, h => by
    unfold entI at h
    split at h
    · cases h
    · rename_i hne
      rw [List.cons_append]
      unfold entI
      split
      · rename_i he
        by_cases hk : k' = k
        · subst hk
          exact absurd he hne
        · rw [if_neg hk]
      · exact entI_push k' hx h
theorem Mp.lt {w : World} {m : Nat} {f : Int → Option Value} (h : Mp w m f) : m < w.heap.size := by
  obtain ⟨es, clock, hb, _⟩ := h
  exact (Array.getElem?_eq_some_iff.1 hb).1
theorem Mp.same {w w' : World} {m : Nat} {f : Int → Option Value} (h : Mp w m f) (e : w'.heap[m]? = w.heap[m]?) : Mp w' m f := by
  obtain ⟨es, clock, hb, h1, h2⟩ := h
  exact ⟨es, clock, by rw [e]; exact hb, h1, h2⟩
theorem Mp.new (w : World) : Mp (w.alloc (.map #[] 0)) w.heap.size (fun _ => none) := ⟨#[], 0, heap_alloc_new _ _, by simp, fun _ => rfl⟩
/-- Asked. -/
theorem Mp.look {P : Program} {w : World} {m : Nat} {f : Int → Option Value} (h : Mp w m f) {T K E : TypeId} (hm : P.underlying T = some (.map K E)) (hd : P.underlying K = some (.int .i64)) {z : Value} (hz : (zeroValue E).run P w = .ok z w) (k : Int) :
    (Instr.lookup T (.map (some m)) (.int .i64 k) false).run P w = .ok ((f k).getD z) w := by
  obtain ⟨es, clock, hb, h1, h2⟩ := h
  have hk : IsKey (.int .i64) (.int .i64 k) := by simp [IsKey]
  rcases find_i k es.toList 0 h1 with ⟨g1, g2⟩ | ⟨j, e, g1, g2, g3, g4, _⟩
  · rw [← h2 k, g2]
    simp [Instr.lookup, run_underlying hm, Go.MapKept.run_getObj_map hb, run_checkKey hd hk, run_findKey hd g1, hz, Result.andThen]
  · rw [← h2 k, g4]
    simp [Instr.lookup, run_underlying hm, Go.MapKept.run_getObj_map hb, run_checkKey hd hk, run_findKey hd g1, Result.andThen]
/-- Written. -/
theorem Mp.store {P : Program} {w : World} {m : Nat} {f : Int → Option Value} (h : Mp w m f) {T K E : TypeId} (hm : P.underlying T = some (.map K E)) (hd : P.underlying K = some (.int .i64)) (k : Int) (v : Value) :
    ∃ w', (Instr.mapUpdate T (.map (some m)) (.int .i64 k) v).run P w = .ok () w' ∧ Mp w' m (updI f k v) ∧ w.grownBy w' (some m) := by
  obtain ⟨es, clock, hb, h1, h2⟩ := h
  have hk : IsKey (.int .i64) (.int .i64 k) := by simp [IsKey]
  have hgrow : ∀ o, w.grownBy { w with heap := w.heap.setIfInBounds m o } (some m) := fun o => ⟨rfl, rfl, rfl, by simp, fun i hi hne => (heap_set hb).2 i (fun e => hne (by rw [e]))⟩
  rcases find_i k es.toList 0 h1 with ⟨g1, g2⟩ | ⟨j, e, g1, g2, g3, g4, g5⟩
  · refine ⟨_, by simp [Instr.mapUpdate, run_underlying hm, Go.MapKept.run_getObj_map hb, run_checkKey hd hk, run_findKey hd g1, run_setObj_map _ hb, Result.andThen]; rfl, ⟨_, _, (heap_set hb).1, ?_, fun k' => ?_⟩, hgrow _⟩
    · intro x hx
      simp only [Array.toList_push, List.mem_append, List.mem_singleton] at hx
      rcases hx with hx | rfl
      · exact h1 x hx
      · exact hk
    · rw [Array.toList_push, entI_push k' rfl g2, h2]
      rfl
  · have hj : es[j]? = some e := by simpa using g2
    refine ⟨_, by simp [Instr.mapUpdate, run_underlying hm, Go.MapKept.run_getObj_map hb, run_checkKey hd hk, run_findKey hd g1, hj, g3, run_keyThatStays hk, run_setObj_map _ hb, Result.andThen]; rfl, ⟨_, _, (heap_set hb).1, ?_, fun k' => ?_⟩, hgrow _⟩
    · exact isKey_modify h1 _ _ (fun e' he' => by rw [hj] at he'; cases he'; exact g3.symm)
    · have e1 : (es.modify j fun e => { e with key := .int .i64 k, val := v }).toList = es.toList.set j { e with key := .int .i64 k, val := v } := by
        apply List.ext_getElem?
        intro i
        rw [Array.getElem?_toList, Array.getElem?_modify, List.getElem?_set]
        by_cases hij : j = i
        · subst hij
          have hlt : j < es.toList.length := (List.getElem?_eq_some_iff.1 g2).1
          rw [if_pos rfl, if_pos rfl, if_pos hlt, hj]
          rfl
        · rw [if_neg hij, if_neg hij, Array.getElem?_toList]
      rw [e1, g5 _ rfl k', h2]
      rfl
/-- Asked, in a walk. -/
theorem wpList_look {ops : Array Oper} {rest : List Oper} {o : Oper} {a : Act} {Q : Exit → Act → World → Prop} (w : World) (hg : o.guard = none) (x y : Operand) (T K E : TypeId) (hop : o.op = Op.lookup T x y false) (hm : Tryz.prog.underlying T = some (.map K E)) (hd : Tryz.prog.underlying K = some (.int .i64)) (z : Value) (hz : (zeroValue E).run Tryz.prog w = .ok z w)
    (m : Nat) (f : Int → Option Value) (hx : a.eval x = .map (some m)) (k : Int) (hy : a.eval y = .int .i64 k) (h : Mp w m f) (hK : wpList Tryz.prog ops Q rest (a.put o.dst ((f k).getD z)) w) : wpList Tryz.prog ops Q (o :: rest) a w := by
  refine wpList_plain hg fun K' hK' => ?_
  unfold Oper.wp
  simp [execOp, hop, hx, hy, h.look hm hd hz k, Result.andThen]
  exact hK' _ _ hK
/-- Asked, in a region that draws. -/
theorem ans_look {ops : Array Oper} {S : World → Prop} {oi : Oper} {a : Act} (x y : Operand) (T K E : TypeId) (ho : oi.op = Op.lookup T x y false) (hw : Region.wanted oi (yielded ops a.tmps) = true) (hm : Tryz.prog.underlying T = some (.map K E)) (hd : Tryz.prog.underlying K = some (.int .i64)) (z : Value) (hz : ∀ w, (zeroValue E).run Tryz.prog w = .ok z w)
    (m : Nat) (f : Int → Option Value) (hx : a.eval x = .map (some m)) (k : Int) (hy : a.eval y = .int .i64 k) (h : ∀ w, S w → Mp w m f) : Ans Tryz.prog ops S oi ((f k).getD z) a :=
  ans_plain hw fun w hs => by simp [execOp, ho, hx, hy, (h w hs).look hm hd (hz w) k, Result.andThen]
/-- Written, as one operation. -/
theorem opMset {ops : Array Oper} {Q : Exit → Act → World → Prop} (i : Nat) (T K E : TypeId) (x y z : Operand) {oi : Oper} {C : Act → World → Prop} {a : Act} {w : World} (hi : ops[i]? = some oi) (hd0 : oi.dst = none) (ho : oi.op = .mapUpdate T x y z) (hg : oi.guard = none) (hm : Tryz.prog.underlying T = some (.map K E)) (hd : Tryz.prog.underlying K = some (.int .i64))
    (m : Nat) (f : Int → Option Value) (hx : a.eval x = .map (some m)) (k : Int) (hy : a.eval y = .int .i64 k) (v : Value) (hz : a.eval z = v) (h : Mp w m f)
    (c : ∀ w', Mp w' m (updI f k v) → w.grownBy w' (some m) → C a w') : wpOp Tryz.prog ops Q i C a w := by
  obtain ⟨w', hrun, r1, r2⟩ := h.store hm hd k v
  have hK : Hid _ := c w' r1 r2
  clear c
  unfold wpOp
  simp only [hi]
  rw [if_pos (by simp [Region.wanted, hg])]
  left
  unfold Oper.wp
  simp [execOp, ho, hx, hy, hz, hrun, Result.andThen]
  simp only [Oper.upon, hd0]
  exact hK.out
theorem Kp.some {w w' : World} {r : Nat} (h : w.grownBy w' (some r)) : Kp (fun k => k = r) w w' := Kp.of_grown h

end Go.Proofs.YtlenmkhmkommcaaGreat

/-
  Layer 9's disk as the program keeps it in memory ('Dm'): its own cells, what blocks were (a map), what waits, what was seen, what somebody else does (a map); and how each part outlasts what is written elsewhere. No condition; no statement of the seat is proved here.
-/
namespace Go.Proofs.YtlenmkhmkommcaaGreat
open Go.RowKit

/-- Block j has cells of type e. -/
def Ty (w : World) (j : Nat) (e : TypeId) : Prop := ∃ cur f, w.heap[j]? = some (.cells cur e f)
theorem Ty.one {w : World} {j : Nat} {e e' : TypeId} (h : Ty w j e) (h' : Ty w j e') : e = e' := by
  obtain ⟨c, f, h⟩ := h
  obtain ⟨c', f', h'⟩ := h'
  rw [h] at h'
  simp only [Option.some.injEq, Obj.cells.injEq] at h'
  exact h'.2.1
theorem Ty.same {w w' : World} {j : Nat} {e : TypeId} (h : Ty w j e) (hs : w'.heap[j]? = w.heap[j]?) : Ty w' j e := by
  obtain ⟨c, f, h⟩ := h
  exact ⟨c, f, by rw [hs]; exact h⟩
theorem Mp.noTy {w : World} {m : Nat} {f : Int → Option Value} (h : Mp w m f) (e : TypeId) : ¬ Ty w m e := by
  obtain ⟨es, c, hb, _⟩ := h
  rintro ⟨cur, g, h'⟩
  rw [hb] at h'
  simp at h'
theorem Blk.ty {w : World} {g : Nat} {vs : List Value} {t : TypeId} (h : Blk w g vs t) : Ty w g t := ⟨vs.toArray, (0, 0), h⟩
theorem Pw.ty {w : World} {r : Nat} {S : PowS} (h : Pw w r S) : Ty w r 87 := by
  obtain ⟨b, a, _, _, hb⟩ := h
  exact hb.ty
theorem OwS.ty {α : Type} {el : World → α → List Value → Prop} {sz : Nat} {e : TypeId} {w : World} {base : Nat} {v : Value} {l : List α} (h : OwS el sz e w base v l) : ∀ k, v.ownBlock = some k → Ty w k e := fun k hk => by
  obtain ⟨cur, hc⟩ := h.type k hk
  exact ⟨cur, _, hc⟩
/-- From w to w' only blocks of T were written, none of U's bytes; U became U'. -/
structure Sp (U U' T : Nat → Prop) (w w' : World) : Prop where
  kp : Kp T w w'
  no5 : ∀ j, T j → U j → ¬ Ty w j 5
  up : ∀ j, U j → U' j
theorem Sp.b5 {U U' T : Nat → Prop} {w w' : World} (s : Sp U U' T w w') {p : Option Addr} {m q : Nat} {b : List UInt8} (h : B5 U w p m q b) : B5 U' w' p m q b :=
  (h.keep fun j cur f hu hh => s.kp.block j (Array.getElem?_eq_some_iff.1 hh).1 fun ht => s.no5 j ht hu ⟨cur, f, hh⟩).mono fun j _ hj => s.up j hj
/-- Bytes as an element. -/
def elY (A : Nat → Prop) (w : World) (b : List UInt8) (vs : List Value) : Prop := ∃ p m q, vs = [.slice p m q] ∧ B5 A w p m q b
/-- What somebody else does, its bytes in a block of bytes. -/
def elQ (A : Nat → Prop) (w : World) (x : Pok) (vs : List Value) : Prop := ∃ p m q, vs = [.int .i64 x.on, .int .i64 x.at_, .int .i64 x.kind, .slice p m q, .int .i64 x.num] ∧ B5 A w p m q x.bytes ∧ i64 x.on ∧ i64 x.at_ ∧ i64 x.kind ∧ i64 x.num
theorem Sp.elY {U U' T : Nat → Prop} {w w' : World} (s : Sp U U' T w w') : ∀ x vs, elY U w x vs → elY U' w' x vs := by
  rintro x vs ⟨p, m, q, e, hb⟩
  exact ⟨p, m, q, e, s.b5 hb⟩
theorem Sp.elT {U U' T : Nat → Prop} {w w' : World} (s : Sp U U' T w w') : ∀ x vs, elT U w x vs → elT U' w' x vs := by
  rintro x vs ⟨p, m, q, e, hb, hi⟩
  exact ⟨p, m, q, e, s.b5 hb, hi⟩
theorem Sp.elQ {U U' T : Nat → Prop} {w w' : World} (s : Sp U U' T w w') : ∀ x vs, elQ U w x vs → elQ U' w' x vs := by
  rintro x vs ⟨p, m, q, e, hb, hi⟩
  exact ⟨p, m, q, e, s.b5 hb, hi⟩
theorem OwS.turn {α : Type} {el el' : World → α → List Value → Prop} {sz : Nat} {e : TypeId} {w w' : World} {base : Nat} {v : Value} {l : List α} (h : OwS el sz e w base v l) (he : ∀ x vs, el w x vs → el' w' x vs) (hk : ∀ j, v.ownBlock = some j → w'.heap[j]? = w.heap[j]?) : OwS el' sz e w' base v l := by
  obtain ⟨rows, hr, h1, h2⟩ := h
  refine ⟨rows, hr.mono fun x vs ⟨a1, a2, a3⟩ => ⟨a1, a2, he x vs a3⟩, h1, ?_⟩
  rcases h2 with h2 | ⟨g, cap, cur, rfl, hg, hh, r⟩
  · exact Or.inl h2
  · exact Or.inr ⟨g, cap, cur, rfl, hg, by rw [hk g rfl]; exact hh, r⟩
/-- What block k was, the eldest first. -/
def pastL (S : List Chg) (k : Int) : List (List UInt8) := (S.filter fun c => decide (c.1 = k)).map (·.2)
theorem pastL_same (S : List Chg) (k : Int) (b : List UInt8) : pastL (S ++ [(k, b)]) k = pastL S k ++ [b] := by simp [pastL]
theorem pastL_other (S : List Chg) {k k' : Int} (h : k' ≠ k) (b : List UInt8) : pastL (S ++ [(k, b)]) k' = pastL S k' := by
  unfold pastL
  rw [List.filter_append, List.filter_cons_of_neg (by simpa using fun e => h e.symm)]
  simp
theorem pastL_len (S : List Chg) (k : Int) : (pastL S k).length ≤ S.length := by
  unfold pastL
  rw [List.length_map]
  exact List.length_filter_le _ _
theorem pastL_mem {S : List Chg} {k : Int} {b : List UInt8} (h : b ∈ pastL S k) : ∃ c ∈ S, c.2 = b := by
  unfold pastL at h
  obtain ⟨c, hc, e⟩ := List.mem_map.1 h
  exact ⟨c, (List.mem_filter.1 hc).1, e⟩
theorem agoR_past (k : Int) : ∀ (R : List Chg) (n : Nat), agoR R k n = ((R.filter fun c => decide (c.1 = k)).map (·.2)).getD n z512
  | [], n => by simp [agoR]
  | c :: R, n => by
    by_cases h : c.1 = k
    · rw [List.filter_cons_of_pos (by simpa using h), List.map_cons]
      cases n with
      | zero => rw [agoR_zero h]; rfl
      | succ n => rw [agoR_succ h, agoR_past k R n]; simp [List.getD]
    · rw [agoR_miss h, List.filter_cons_of_neg (by simpa using h)]
      exact agoR_past k R n
theorem ago_past (D : DskS) (k : Int) (n : Nat) : D.ago k n = (pastL D.safe k).reverse.getD n z512 := by
  unfold DskS.ago pastL
  rw [agoR_past, List.filter_reverse, List.map_reverse]
/-- What somebody else does ahead of step k, its bytes cut. -/
def cutP (x : Pok) : Pok := { x with bytes := x.bytes.take 512 }
def plotL (l : List Pok) (k : Int) : List Pok := (l.filter fun x => decide (x.on = k)).map cutP
theorem plotL_other (l : List Pok) {k : Int} (x : Pok) (h : k ≠ x.on) : plotL (l ++ [x]) k = plotL l k := by
  unfold plotL
  rw [List.filter_append, List.filter_cons_of_neg (by simpa using fun e => h e.symm)]
  simp
def nilV : Value := .slice none 0 0
/-- What blocks were. -/
structure PastI (U : Nat → Prop) (w : World) (mp : Nat) (f : Int → Option Value) (S : List Chg) : Prop where
  map : Mp w mp f
  inU : U mp
  row : ∀ k, OwS (elY U) 1 26 w 0 ((f k).getD nilV) (pastL S k)
  at_ : ∀ k j, ((f k).getD nilV).ownBlock = some j → U j
  two : ∀ k k' j, ((f k).getD nilV).ownBlock = some j → ((f k').getD nilV).ownBlock = some j → k = k'
theorem PastI.turn {U U' T : Nat → Prop} {w w' : World} {mp : Nat} {f : Int → Option Value} {S : List Chg} (h : PastI U w mp f S) (s : Sp U U' T w w') (hT : ∀ j, T j → U j → j ≠ mp ∧ ¬ Ty w j 26) : PastI U' w' mp f S :=
  ⟨h.map.same (s.kp.block mp h.map.lt fun ht => (hT mp ht h.inU).1 rfl), s.up _ h.inU, fun k => (h.row k).turn s.elY fun j hj => s.kp.block j ((h.row k).lt j hj).2 fun ht => (hT j ht (h.at_ k j hj)).2 ((h.row k).ty j hj), fun k j hj => s.up _ (h.at_ k j hj), h.two⟩
/-- Touches in a row of the disk's own. -/
structure TchI (U : Nat → Prop) (w : World) (v : Value) (l : List Tch) : Prop where
  row : OwS (elT U) 3 114 w 0 v l
  at_ : ∀ j, v.ownBlock = some j → U j
theorem TchI.turn {U U' T : Nat → Prop} {w w' : World} {v : Value} {l : List Tch} (h : TchI U w v l) (s : Sp U U' T w w') (hT : ∀ j, T j → U j → v.ownBlock ≠ some j) : TchI U' w' v l :=
  ⟨h.row.turn s.elT fun j hj => s.kp.block j (h.row.lt j hj).2 fun ht => hT j ht (h.at_ j hj) hj, fun j hj => s.up _ (h.at_ j hj)⟩
/-- What somebody else does, from step s on. -/
structure PlotI (U : Nat → Prop) (w : World) (mq : Option Nat) (g : Int → Option Value) (s : Nat) (l : List Pok) : Prop where
  map : ∀ m, mq = some m → Mp w m g ∧ U m
  no : mq = none → ∀ k, g k = none
  row : ∀ k, (s : Int) ≤ k → OwS (elQ U) 5 28 w 0 ((g k).getD nilV) (plotL l k)
  at_ : ∀ k j, (s : Int) ≤ k → ((g k).getD nilV).ownBlock = some j → U j
theorem PlotI.turn {U U' T : Nat → Prop} {w w' : World} {mq : Option Nat} {g : Int → Option Value} {t : Nat} {l : List Pok} (h : PlotI U w mq g t l) (s : Sp U U' T w w') (hT : ∀ j, T j → U j → mq ≠ some j ∧ ¬ Ty w j 28) : PlotI U' w' mq g t l :=
  ⟨fun m hm => ⟨(h.map m hm).1.same (s.kp.block m (h.map m hm).1.lt fun ht => (hT m ht (h.map m hm).2).1 hm), s.up _ (h.map m hm).2⟩, h.no, fun k hk => (h.row k hk).turn s.elQ fun j hj => s.kp.block j ((h.row k hk).lt j hj).2 fun ht => (hT j ht (h.at_ k j hk hj)).2 ((h.row k hk).ty j hj), fun k j hk hj => s.up _ (h.at_ k j hk hj)⟩
/-- Where the disk's parts lie. -/
structure Mm where
  mp : Nat
  wa : Option Addr
  wn : Nat
  wc : Nat
  mq : Option Nat
  sa : Option Addr
  sn : Nat
  sc : Nat
  f : Int → Option Value
  g : Int → Option Value
/-- The disk's own cells. -/
def hc (r : Nat) (D : DskS) (M : Mm) : List Value := [.pointer (some ⟨r, 0, none⟩), .int .i64 D.n, .int .i64 (D.steps : Int), .map (some M.mp), .slice M.wa M.wn M.wc, .map M.mq, .slice M.sa M.sn M.sc]
def t3 (c : Chg) : Tch := (1, c.1, c.2)
/-- The disk. -/
structure Dm (U : Nat → Prop) (w : World) (d r : Nat) (D : DskS) (M : Mm) : Prop where
  lt : ∀ j, U j → j < w.heap.size
  inD : U d
  inR : U r
  blk : Blk w d (hc r D M) 91
  pw : Pw w r D.p
  past : PastI U w M.mp M.f D.safe
  wait : TchI U w (.slice M.wa M.wn M.wc) (D.loose.map t3)
  seen : TchI U w (.slice M.sa M.sn M.sc) D.seen
  two : ∀ j, Value.ownBlock (.slice M.wa M.wn M.wc) = some j → Value.ownBlock (.slice M.sa M.sn M.sc) ≠ some j
  plot : PlotI U w M.mq M.g D.steps D.plot
  maps : ∀ m, M.mq = some m → m ≠ M.mp
  len1 : ∀ c ∈ D.safe, c.2.length = 512
  len2 : ∀ c ∈ D.loose, c.2.length = 512
  len3 : ∀ t ∈ D.seen, t.2.2.length ≤ 512
/-- What the disk may write. -/
def Wr (U : Nat → Prop) (w : World) (j : Nat) : Prop := U j ∧ ¬ Ty w j 5
/-- All blocks of U as they were. -/
theorem Dm.turn {U U' T : Nat → Prop} {w w' : World} {d r : Nat} {D : DskS} {M : Mm} (h : Dm U w d r D M) (k : Kp T w w') (hT : ∀ j, U j → ¬ T j) (hU : ∀ j, U j → U' j) (hlt : ∀ j, U' j → j < w'.heap.size) : Dm U' w' d r D M := by
  have s : Sp U U' T w w' := ⟨k, fun j ht hu _ => hT j hu ht, hU⟩
  exact ⟨hlt, hU _ h.inD, hU _ h.inR, k.blk h.blk (hT _ h.inD), h.pw.same (k.block r h.pw.lt (hT _ h.inR)), h.past.turn s fun j ht hu => absurd ht (hT j hu), h.wait.turn s fun j ht hu => absurd ht (hT j hu), h.seen.turn s fun j ht hu => absurd ht (hT j hu), h.two, h.plot.turn s fun j ht hu => absurd ht (hT j hu), h.maps, h.len1, h.len2, h.len3⟩
theorem Dm.below {U : Nat → Prop} {w w' : World} {d r : Nat} {D : DskS} {M : Mm} (h : Dm U w d r D M) (k : Below w.heap.size w w') : Dm U w' d r D M :=
  h.turn (Kp.of_below (F := fun _ => False) k) (fun _ _ hf => hf) (fun _ hu => hu) (fun j hu => Nat.lt_of_lt_of_le (h.lt j hu) k.size)
theorem Dm.kp {U T : Nat → Prop} {w w' : World} {d r : Nat} {D : DskS} {M : Mm} (h : Dm U w d r D M) (k : Kp T w w') (hT : ∀ j, U j → ¬ T j) : Dm U w' d r D M :=
  h.turn k hT (fun _ hu => hu) (fun j hu => Nat.lt_of_lt_of_le (h.lt j hu) k.size)
theorem Dm.up {U U' : Nat → Prop} {w : World} {d r : Nat} {D : DskS} {M : Mm} (h : Dm U w d r D M) (hU : ∀ j, U j → U' j) (hlt : ∀ j, U' j → j < w.heap.size) : Dm U' w d r D M :=
  h.turn (Kp.refl (fun _ => False) w) (fun _ _ hf => hf) hU hlt
/-- What a call that writes leaves. -/
def Dn (U : Nat → Prop) (w : World) (d r : Nat) (D : DskS) (w' : World) : Prop := ∃ U' M', Dm U' w' d r D M' ∧ Next w U U' ∧ Kp (Wr U w) w w'
theorem Next.refl (w : World) (U : Nat → Prop) : Next w U U := fun _ h => Or.inl h
theorem Next.trans {w w1 : World} {U U1 U2 : Nat → Prop} (h : Next w U U1) (k : Next w1 U1 U2) (hs : w.heap.size ≤ w1.heap.size) : Next w U U2 := fun j hj => by
  rcases k j hj with h1 | h1
  · exact h j h1
  · exact Or.inr (Nat.le_trans hs h1)
theorem Kp.wr {U U1 : Nat → Prop} {w w1 w2 : World} (h : Kp (Wr U w) w w1) (n : Next w U U1) (k : Kp (Wr U1 w1) w1 w2) : Kp (Wr U w) w w2 :=
  ⟨k.os.trans h.os, k.tape.trans h.tape, k.output.trans h.output, Nat.le_trans h.size k.size, fun j hj hn => by
    refine (k.block j (Nat.lt_of_lt_of_le hj h.size) fun ⟨hu, h5⟩ => ?_).trans (h.block j hj hn)
    rcases n j hu with hu | hu
    · refine h5 (Ty.same ?_ (h.block j hj hn))
      exact Classical.byContradiction fun h5' => hn ⟨hu, h5'⟩
    · omega⟩
theorem Dn.more {U U1 : Nat → Prop} {w w1 w2 : World} {d r : Nat} {D : DskS} (k : Kp (Wr U w) w w1) (n : Next w U U1) (h : Dn U1 w1 d r D w2) : Dn U w d r D w2 := by
  obtain ⟨U', M', hm, hn, hk⟩ := h
  exact ⟨U', M', hm, n.trans hn k.size, k.wr n hk⟩
theorem Dn.below {U : Nat → Prop} {w w1 w2 : World} {d r : Nat} {D : DskS} (h : Dn U w d r D w1) (k : Below w1.heap.size w1 w2) : Dn U w d r D w2 := by
  obtain ⟨U', M', hm, hn, hk⟩ := h
  exact ⟨U', M', hm.below k, hn, hk.trans (Kp.of_below k)⟩
/-- What is made ahead of a call, and is not the disk's, is of no matter. -/
theorem Dn.behind {U : Nat → Prop} {w w1 w2 : World} {d r : Nat} {D : DskS} (hb : Below w.heap.size w w1) (h : Dn U w1 d r D w2) : Dn U w d r D w2 := by
  refine Dn.more (U1 := U) (Kp.of_below hb) (Next.refl _ _) h
theorem Dn.same {U : Nat → Prop} {w w' : World} {d r : Nat} {D : DskS} {M : Mm} (h : Dm U w d r D M) (k : Below w.heap.size w w') : Dn U w d r D w' := ⟨U, M, h.below k, Next.refl _ _, Kp.of_below k⟩
end Go.Proofs.YtlenmkhmkommcaaGreat

/-
  The contracts of the program's total and Join: parts, one behind the other. Condition: the parts have at most 100000 bytes in all.
-/
namespace Go.Proofs.YtlenmkhmkommcaaGreat
open Go.RowKit

set_option maxHeartbeats 400000 in
theorem oTotal (w : World) {a : Option Addr} {n c : Nat} {ls : List (List UInt8)} (ha : Bss w a n c ls) (hz : tot ls ≤ 100000) :
    Calls Tryz.prog 99 #[.slice a n c] w fun e w' => e = .returned (.int .i64 (tot ls : Nat)) ∧ w = w' := by
  have h1 := ha.max
  by_cases h0 : n = 0
  · subst h0
    have e : ls = [] := List.length_eq_zero_iff.1 ha.len
    subst e
    clear ha
    go_enter Tryz.func99, Tryz.ntmps99
    go_wp2
    refine wp_loop_rounds 1 ?_; rw [rounds_succ]; go_wp2
    go_ret
    exact ⟨rfl, rfl⟩
  · obtain ⟨x, o, rfl, hx, hc⟩ := ha.at (by omega)
    have H : Hid (ls.length = n) := ha.len
    clear ha
    go_enter Tryz.func99, Tryz.ntmps99
    go_wp2
    go_loop [3, 8] (fun t i => ∃ k : Nat, k ≤ n ∧ i = .int .i64 k ∧ t = .int .i64 (tot (ls.take k) : Nat)) (fun _ i => n - (intOf i).toNat)
    case atStart => exact ⟨0, Nat.zero_le _, rfl, rfl⟩
    case round =>
      obtain ⟨k, hk, rfl, rfl⟩ := hrel
      by_cases hlt : k < n
      · obtain ⟨p, m, q, c1, hb⟩ := hc k hlt
        have b0 := tot_take_le ls (k + 1)
        have b1 := tot_step (by rw [H.out]; exact hlt) hb.len
        have B1 : Hid ((tot (ls.take k) : Int) + (m : Int) = (tot (ls.take (k + 1)) : Nat)) := b1
        have b2 : (tot (ls.take k) : Int) + (m : Int) ≤ 100000 := by omega
        clear hc b0 b1 hb
        go_wp2
        go_round
        case rel => exact ⟨k + 1, by omega, by go_num, by rw [B1.out]⟩
        case measure => simp [intOf]; omega
      · go_wp2
        go_ret
        exact ⟨ret_int (by rw [List.take_of_length_le (by rw [H.out]; omega)]), rfl⟩

set_option maxHeartbeats 400000 in
theorem oJoin (w : World) {a : Option Addr} {n c : Nat} {ls : List (List UInt8)} (ha : Bss w a n c ls) (hz : tot ls ≤ 100000) :
    Calls Tryz.prog 67 #[.slice a n c] w (Gives w ls.flatten) := by
  have h1 := ha.max
  have hT := oTotal w ha hz
  by_cases h0 : n = 0
  · subst h0
    have e : ls = [] := List.length_eq_zero_iff.1 ha.len
    subst e
    clear ha
    go_enter Tryz.func67, Tryz.ntmps67
    go_wp2_with (first | (go_at_call 99; refine hT.mono ?_; rintro e w' ⟨rfl, rfl⟩) | (at_make; refine wpList_mk0 _ rfl _ _ rfl _ _ rfl rfl (by omega) (by omega) (Nat.le_refl _) ?_; intro v1 w1 hown hbel))
    refine wp_loop_rounds 1 ?_; rw [rounds_succ]; go_wp2
    go_ret
    exact Gives.mk hown hbel
  · obtain ⟨x, o, rfl, hx, hc⟩ := ha.at (by omega)
    have H : Hid (ls.length = n) := ha.len
    clear ha
    go_enter Tryz.func67, Tryz.ntmps67
    go_wp2_with (first | (go_at_call 99; refine hT.mono ?_; rintro e w' ⟨rfl, rfl⟩) | (at_make; refine wpList_mk0 _ rfl _ _ rfl _ _ rfl rfl (by omega) (by omega) (Nat.le_refl _) ?_; intro v1 w1 hown hbel))
    clear hT
    go_loopw [3, 11] (fun v i wr => ∃ k : Nat, k ≤ n ∧ i = .int .i64 k ∧ Own wr w.heap.size v (ls.take k).flatten ∧ Below w.heap.size w wr) (fun _ i _ => n - (intOf i).toNat)
    case atStart => exact ⟨0, Nat.zero_le _, rfl, hown, hbel⟩
    case round =>
      obtain ⟨k, hk, rfl, ho, hb⟩ := hrel
      clear hown hbel
      by_cases hlt : k < n
      · obtain ⟨p, m, q, c1, hp⟩ := Bss.part hc hb k hlt
        have hr := flat_room (by rw [H.out]; exact hlt) hz
        have hs := hb.size
        have HS : Hid ((ls.take k).flatten ++ ls.getD k [] = (ls.take (k + 1)).flatten) := flat_step (by rw [H.out]; exact hlt)
        go_wp2_with (at_builtin; refine wpList_app _ rfl _ _ rfl w.heap.size _ _ rfl ho _ _ _ _ rfl (hp.below hb (Nat.le_refl _)) hr hs ?_; intro v2 w2 ho2 hb2)
        go_roundw
        case rel => exact ⟨k + 1, by omega, by go_num, by rw [← HS.out]; exact ho2, hb.trans hb2⟩
        case measure => simp [intOf]; omega
      · go_wp2
        go_ret
        exact Gives.mk (flat_end H hlt ho) hb

end Go.Proofs.YtlenmkhmkommcaaGreat
