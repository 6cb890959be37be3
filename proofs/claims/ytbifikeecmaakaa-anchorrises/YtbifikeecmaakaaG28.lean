/-
  3 texts in one. No statement of the seat is proved here.
-/
import Derived.Test.YtbifikeecmaakaaG27
import Derived.Deep.CutBlock
/-
  Plain mathematics of layer 14's keeper: what its two sectors hold ('Jk'), what a save, a loss of power and an opening make of it. No condition; nothing of the program.
-/
namespace Go.Proofs.Ytbifikeecmaakaa
open Go.RowKit

/-- The anchor with which the n-th sector begins, by turns. -/
def secA (C : CelS) (n : Int) : AncS := (getA (C.l.getD (n % 2).toNat [])).1
theorem secA_two (C : CelS) (n : Int) : n % 2 = 0 ∧ secA C n = secA C 0 ∧ secA C (n + 1) = secA C 1 ∨ n % 2 = 1 ∧ secA C n = secA C 1 ∧ secA C (n + 1) = secA C 0 := by
  unfold secA
  rcases (show n % 2 = 0 ∨ n % 2 = 1 from by omega) with h | h
  · refine Or.inl ⟨h, by rw [h]; rfl, by rw [show (n + 1) % 2 = 1 from by omega]; rfl⟩
  · refine Or.inr ⟨h, by rw [h]; rfl, by rw [show (n + 1) % 2 = 0 from by omega]; rfl⟩
theorem openA_sec (C : CelS) : openA C = pickA (secA C 0) (secA C 1) := rfl
/-- The other sector is older, or none is there. -/
theorem openA_old {C : CelS} {a : AncS} (h1 : secA C a.seq = a) (h2 : (secA C (a.seq + 1)).seq < a.seq ∨ secA C (a.seq + 1) = zeroA ∧ a = zeroA) : openA C = a := by
  rw [openA_sec]
  unfold pickA
  rcases secA_two C a.seq with ⟨_, e1, e2⟩ | ⟨_, e1, e2⟩
  · rw [← e1, ← e2, h1]
    rcases h2 with h2 | h2
    · rw [if_neg (by omega)]
    · rw [h2.1, h2.2]
      rfl
  · rw [← e1, ← e2, h1]
    rcases h2 with h2 | h2
    · rw [if_pos h2]
    · rw [h2.1, h2.2]
      rfl
/-- The other sector is newer. -/
theorem openA_new {C : CelS} {a : AncS} (h1 : secA C a.seq = a) (h2 : a.seq < (secA C (a.seq + 1)).seq) : openA C = secA C (a.seq + 1) := by
  rw [openA_sec]
  unfold pickA
  rcases secA_two C a.seq with ⟨_, e1, e2⟩ | ⟨_, e1, e2⟩
  · rw [← e1, ← e2, h1, if_pos h2]
  · rw [← e1, ← e2, h1, if_neg (by omega)]

/-- A write of an anchor to its sector. -/
theorem put_eq {C : CelS} {x : AncS} (hx : chkA x = 0) : C.write (x.seq % 2) (ancL x) = (C.wrote (x.seq % 2) (ancL x), if C.p.ok then 0 else 5) := by
  unfold CelS.write
  have := ancL_le hx
  rw [if_neg (by omega), if_neg (by omega)]
theorem wrote_p (C : CelS) (n : Int) (b : List UInt8) : (C.wrote n b).p = C.p.next := by
  unfold CelS.wrote
  split <;> rfl
theorem wrote_not {C : CelS} {n : Int} {b : List UInt8} (h : C.p.does = false) (m : Int) : secA (C.wrote n b) m = secA C m := by
  unfold CelS.wrote
  rw [h]
  rfl
theorem wrote_here {C : CelS} {x : AncS} (hl : C.l.length = 4) (h : C.p.does = true) (hx : chkA x = 0) : secA (C.wrote (x.seq % 2) (ancL x)) x.seq = x := by
  unfold CelS.wrote secA
  rw [if_pos h]
  dsimp only
  rw [List.getD_eq_getElem?_getD, List.getElem?_set_self (by omega)]
  show (getA (fitK (ancL x))).1 = x
  rw [getA_fit hx]
theorem wrote_there {C : CelS} {x : AncS} (m : Int) (hm : m % 2 ≠ x.seq % 2) : secA (C.wrote (x.seq % 2) (ancL x)) m = secA C m := by
  unfold CelS.wrote secA
  split
  · dsimp only
    rw [List.getD_eq_getElem?_getD, List.getElem?_set_ne (by omega), ← List.getD_eq_getElem?_getD]
  · rfl
theorem ok_not_down {P : PowS} (h : P.ok = false) : P.next.down = true := by
  unfold PowS.ok at h
  unfold PowS.next
  cases hd : P.down with
  | true => rw [if_pos rfl]; exact hd
  | false =>
    rw [hd] at h
    have hf : P.fuse = 0 := by simpa using h
    rw [if_neg (by simp), if_neg (by omega)]
    simp [hf]

/-- What a keeper's sectors hold; R: what lies there may be newer, if it is in this relation and the power has gone. -/
structure Jk (R : AncS → AncS → Prop) (K : KepS) : Prop where
  ok : okA K.last
  here : secA K.c K.last.seq = K.last
  there : ((secA K.c (K.last.seq + 1)).seq < K.last.seq ∨ secA K.c (K.last.seq + 1) = zeroA ∧ K.last = zeroA) ∨ K.c.p.down = true ∧ (secA K.c (K.last.seq + 1)).seq = K.last.seq + 1 ∧ chkA (secA K.c (K.last.seq + 1)) = 0 ∧ R K.last (secA K.c (K.last.seq + 1))
/-- A save whose anchor is in the relation. -/
theorem Jk.save {R : AncS → AncS → Prop} {K : KepS} (h : Jk R K) (hl : K.c.l.length = 4) (a : AncS) (hR : K.c.p.ok = false → chkA (nextA K a) = 0 → R K.last (nextA K a)) : Jk R (K.save a).1 := by
  by_cases hc : chkA (nextA K a) = 0
  · have hp := put_eq (C := K.c) hc
    have e1 : (nextA K a).seq = K.last.seq + 1 := rfl
    have hpp : K.put a = (K.c.wrote ((nextA K a).seq % 2) (ancL (nextA K a)), if K.c.p.ok then 0 else 5) := hp
    cases hok : K.c.p.ok with
    | true =>
      rw [hok, if_pos rfl] at hpp
      rw [KepS.save_ok hc (by rw [hpp]), hpp]
      have hd := ok_does' hok
      refine ⟨Or.inl hc, wrote_here hl hd hc, Or.inl (Or.inl ?_)⟩
      show (secA (K.c.wrote ((nextA K a).seq % 2) (ancL (nextA K a))) ((nextA K a).seq + 1)).seq < (nextA K a).seq
      rw [wrote_there _ (by omega), e1]
      have : secA K.c (K.last.seq + 1 + 1) = secA K.c K.last.seq := by
        unfold secA
        rw [show (K.last.seq + 1 + 1) % 2 = K.last.seq % 2 from by omega]
      rw [this, h.here]
      omega
    | false =>
      rw [hok] at hpp
      have hpp2 : K.put a = (K.c.wrote ((nextA K a).seq % 2) (ancL (nextA K a)), 5) := hpp
      rw [KepS.save_put hc (by rw [hpp2]; show (5 : Int) ≠ 0; decide), hpp2]
      have hdn := ok_not_down hok
      refine ⟨h.ok, ?_, ?_⟩
      · show secA (K.c.wrote ((nextA K a).seq % 2) (ancL (nextA K a))) K.last.seq = K.last
        rw [wrote_there _ (by rw [e1]; omega)]
        exact h.here
      · show ((secA (K.c.wrote ((nextA K a).seq % 2) (ancL (nextA K a))) (K.last.seq + 1)).seq < K.last.seq ∨ secA (K.c.wrote ((nextA K a).seq % 2) (ancL (nextA K a))) (K.last.seq + 1) = zeroA ∧ K.last = zeroA) ∨ (K.c.wrote ((nextA K a).seq % 2) (ancL (nextA K a))).p.down = true ∧ (secA (K.c.wrote ((nextA K a).seq % 2) (ancL (nextA K a))) (K.last.seq + 1)).seq = K.last.seq + 1 ∧ chkA (secA (K.c.wrote ((nextA K a).seq % 2) (ancL (nextA K a))) (K.last.seq + 1)) = 0 ∧ R K.last (secA (K.c.wrote ((nextA K a).seq % 2) (ancL (nextA K a))) (K.last.seq + 1))
        rw [wrote_p]
        cases hdo : K.c.p.does with
        | true =>
          have := wrote_here hl hdo hc
          rw [e1] at this ⊢
          rw [this]
          exact Or.inr ⟨hdn, rfl, hc, hR hok hc⟩
        | false =>
          rw [wrote_not hdo]
          rcases h.there with h1 | ⟨_, h1⟩
          · exact Or.inl h1
          · exact Or.inr ⟨hdn, h1⟩
  · rw [KepS.save_chk hc]
    exact h
/-- Another fuse. -/
theorem Jk.fuse {R : AncS → AncS → Prop} {K : KepS} (h : Jk R K) (n : Int) (d : Bool) : Jk R ⟨{ K.c with p := K.c.p.set n d }, K.last⟩ := ⟨h.ok, h.here, h.there⟩
/-- The power is there again, and the keeper opened anew. -/
theorem Jk.open {R : AncS → AncS → Prop} {K : KepS} (h : Jk R K) (P : PowS) : Jk R ⟨{ K.c with p := P }, openA { K.c with p := P }⟩ ∧ (openA { K.c with p := P } = K.last ∨ chkA (openA { K.c with p := P }) = 0 ∧ R K.last (openA { K.c with p := P })) := by
  have hs : ∀ n, secA { K.c with p := P } n = secA K.c n := fun n => rfl
  rcases h.there with h1 | ⟨_, h2, h3, h4⟩
  · have e : openA { K.c with p := P } = K.last := openA_old (C := { K.c with p := P }) (by rw [hs]; exact h.here) (by rw [hs]; exact h1)
    rw [e]
    exact ⟨⟨h.ok, h.here, Or.inl h1⟩, Or.inl rfl⟩
  · have e : openA { K.c with p := P } = secA K.c (K.last.seq + 1) := openA_new (C := { K.c with p := P }) (a := K.last) (by rw [hs]; exact h.here) (by rw [hs]; omega)
    rw [e]
    refine ⟨⟨Or.inl h3, ?_, Or.inl (Or.inl ?_)⟩, Or.inr ⟨h3, h4⟩⟩
    · show secA K.c (secA K.c (K.last.seq + 1)).seq = secA K.c (K.last.seq + 1)
      rw [h2]
    · show (secA K.c ((secA K.c (K.last.seq + 1)).seq + 1)).seq < (secA K.c (K.last.seq + 1)).seq
      rw [h2]
      have : secA K.c (K.last.seq + 1 + 1) = secA K.c K.last.seq := by
        unfold secA
        rw [show (K.last.seq + 1 + 1) % 2 = K.last.seq % 2 from by omega]
      rw [this, h.here]
      omega

/-- A new keeper. -/
def kep0 : KepS := ⟨CelS.new PowS.new, zeroA⟩
theorem openA_cnew : openA (CelS.new PowS.new) = zeroA := by
  show pickA (getA z1k).1 (getA z1k).1 = zeroA
  rw [getA_zero]
  rfl
theorem Jk_new (R : AncS → AncS → Prop) : Jk R kep0 := by
  have h : ∀ n, secA (CelS.new PowS.new) n = zeroA := fun n => by
    unfold secA
    have : ((CelS.new PowS.new).l.getD (n % 2).toNat []) = z1k := by
      rcases (show n % 2 = 0 ∨ n % 2 = 1 from by omega) with h | h <;> rw [h] <;> rfl
    rw [this, getA_zero]
  exact ⟨Or.inr rfl, h _, Or.inl (Or.inr ⟨h _, rfl⟩)⟩

/-- A save while the power is there, and does not go. -/
theorem save_live {K : KepS} (hl : K.c.p.live) (a : AncS) : (K.save a).1.c.p.live ∧ ((K.save a).2 = 0 ↔ chkA (nextA K a) = 0) ∧ (chkA (nextA K a) = 0 → (K.save a).1.last = nextA K a) := by
  obtain ⟨h1, h2, h3⟩ := live_ok hl
  by_cases hc : chkA (nextA K a) = 0
  · have hpp : K.put a = (K.c.wrote ((nextA K a).seq % 2) (ancL (nextA K a)), 0) := by
      have := put_eq (C := K.c) hc
      rw [h1, if_pos rfl] at this
      exact this
    rw [KepS.save_ok hc (by rw [hpp]), hpp]
    refine ⟨?_, ⟨fun _ => hc, fun _ => rfl⟩, fun _ => rfl⟩
    show (K.c.wrote ((nextA K a).seq % 2) (ancL (nextA K a))).p.live
    rw [wrote_p]
    exact h3
  · rw [KepS.save_chk hc]
    exact ⟨hl, ⟨fun h => absurd h hc, fun h => absurd h hc⟩, fun h => absurd h hc⟩
/-- A save at which the power goes. -/
theorem save_goes {K : KepS} (a : AncS) (d : Bool) (L : KepS) (hL : L = ⟨{ K.c with p := K.c.p.set 0 d }, K.last⟩) : (chkA (nextA K a) = 0 → (L.save a).2 = 5) ∧ (¬ chkA (nextA K a) = 0 → (L.save a).2 = chkA (nextA K a) ∧ L.save a = (L, chkA (nextA K a))) := by
  subst hL
  obtain ⟨L, hL⟩ : ∃ L : KepS, L = ⟨{ K.c with p := K.c.p.set 0 d }, K.last⟩ := ⟨_, rfl⟩
  rw [← hL]
  have hn : nextA L a = nextA K a := by rw [hL]; rfl
  have hok : L.c.p.ok = false := by
    rw [hL]
    unfold PowS.set PowS.ok
    rw [if_neg (by omega)]
    simp
  rw [← hn]
  refine ⟨fun hc => ?_, fun hc => ?_⟩
  · have hpp : L.put a = (L.c.wrote ((nextA L a).seq % 2) (ancL (nextA L a)), 5) := by
      have := put_eq (C := L.c) hc
      rw [hok] at this
      exact this
    rw [KepS.save_put hc (by rw [hpp]; show (5 : Int) ≠ 0; decide), hpp]
  · rw [KepS.save_chk hc]
    exact ⟨rfl, rfl⟩
/-- THE OLD OR THE NEW. -/
theorem keeps14 {K : KepS} (hJ : Jk (fun _ _ => False) K) (hlen : K.c.l.length = 4) (hd : K.c.p.down = false) (a : AncS) (d : Bool) (L : KepS) (hL : L = ⟨{ K.c with p := K.c.p.set 0 d }, K.last⟩) (P : PowS) :
    (chkA (nextA K a) = 0 ∧ d = true → openA { (L.save a).1.c with p := P } = nextA K a) ∧ (¬ (chkA (nextA K a) = 0 ∧ d = true) → openA { (L.save a).1.c with p := P } = K.last) := by
  subst hL
  obtain ⟨L, hL⟩ : ∃ L : KepS, L = ⟨{ K.c with p := K.c.p.set 0 d }, K.last⟩ := ⟨_, rfl⟩
  rw [← hL]
  have hn : nextA L a = nextA K a := by rw [hL]; rfl
  have hlast : L.last = K.last := by rw [hL]
  have hJL : ∀ n, secA L.c n = secA K.c n := fun n => by rw [hL]; rfl
  have hth : (secA K.c (K.last.seq + 1)).seq < K.last.seq ∨ secA K.c (K.last.seq + 1) = zeroA ∧ K.last = zeroA := by
    rcases hJ.there with h | h
    · exact h
    · exact absurd h.2.2.2 (fun h => h)
  have hok : L.c.p.ok = false := by
    rw [hL]
    unfold PowS.set PowS.ok
    rw [if_neg (by omega)]
    simp
  have hdo : L.c.p.does = d := by
    rw [hL]
    unfold PowS.set PowS.does
    rw [if_neg (by omega)]
    simp [hd]
  have hll : L.c.l.length = 4 := by rw [hL]; exact hlen
  by_cases hc : chkA (nextA K a) = 0
  · have hc' : chkA (nextA L a) = 0 := by rw [hn]; exact hc
    have hpp : L.put a = (L.c.wrote ((nextA L a).seq % 2) (ancL (nextA L a)), 5) := by
      have := put_eq (C := L.c) hc'
      rw [hok] at this
      exact this
    rw [KepS.save_put hc' (by rw [hpp]; show (5 : Int) ≠ 0; decide), hpp, hn]
    dsimp only
    have hse : (nextA K a).seq = K.last.seq + 1 := rfl
    have hsec : ∀ n, secA { L.c.wrote ((nextA K a).seq % 2) (ancL (nextA K a)) with p := P } n = secA (L.c.wrote ((nextA K a).seq % 2) (ancL (nextA K a))) n := fun n => rfl
    have hhere : secA (L.c.wrote ((nextA K a).seq % 2) (ancL (nextA K a))) K.last.seq = K.last := by
      rw [wrote_there _ (by omega), hJL]
      exact hJ.here
    refine ⟨fun h => ?_, fun h => ?_⟩
    · have h1 := wrote_here hll (by rw [hdo]; exact h.2) hc
      rw [hse] at h1
      have := openA_new (C := { L.c.wrote ((nextA K a).seq % 2) (ancL (nextA K a)) with p := P }) (a := K.last) (by rw [hsec]; exact hhere) (by rw [hsec, hse, h1]; rw [hse]; omega)
      rw [this, hsec, hse, h1]
    · have hdf : d = false := by
        cases d with
        | false => rfl
        | true => exact absurd ⟨hc, rfl⟩ h
      exact openA_old (C := { L.c.wrote ((nextA K a).seq % 2) (ancL (nextA K a)) with p := P }) (a := K.last) (by rw [hsec]; exact hhere) (by rw [hsec, wrote_not (by rw [hdo]; exact hdf), hJL]; exact hth)
  · rw [KepS.save_chk (by rw [hn]; exact hc)]
    refine ⟨fun h => absurd h.1 hc, fun _ => ?_⟩
    exact openA_old (C := { L.c with p := P }) (a := K.last) (by show secA L.c _ = _; rw [hJL]; exact hJ.here) (by show (secA L.c _).seq < _ ∨ secA L.c _ = _ ∧ _; rw [hJL]; exact hth)
/-- What comes of a save at which the power goes, and an opening behind it. -/
theorem keepsC {K : KepS} (hJ : Jk (fun _ _ => False) K) (hlen : K.c.l.length = 4) (hd : K.c.p.down = false) (a : AncS) (d : Bool) (L : KepS) (hL : L = ⟨{ K.c with p := K.c.p.set 0 d }, K.last⟩) (P : PowS) :
    ((L.save a).2 = 5 ∧ d = true ∧ openA { (L.save a).1.c with p := P } = nextA K a) ∨ (((L.save a).2 ≠ 5 ∨ d = false) ∧ openA { (L.save a).1.c with p := P } = K.last) := by
  obtain ⟨k1, k2⟩ := keeps14 hJ hlen hd a d L hL P
  obtain ⟨g1, g2⟩ := save_goes a d L hL
  by_cases hc : chkA (nextA K a) = 0
  · cases d with
    | true => exact Or.inl ⟨g1 hc, rfl, k1 ⟨hc, rfl⟩⟩
    | false => exact Or.inr ⟨Or.inr rfl, k2 (fun h => by cases h.2)⟩
  · refine Or.inr ⟨Or.inl ?_, k2 (fun h => hc h.1)⟩
    rw [(g2 hc).1]
    rcases chkA_cases (nextA K a) with h | h | h
    · exact absurd h hc
    · rw [h]; decide
    · rw [h]; decide

end Go.Proofs.Ytbifikeecmaakaa

/-
  The contracts of layer 14's program: sameKek, slices.EqualFunc over it, Same. Conditions: none.
-/
namespace Go.Proofs.Ytbifikeecmaakaa
open Go.RowKit

theorem und6 : Try.prog.underlying 80 = some (.array 6 79) := by kernel_rfl
theorem und64 : Try.prog.underlying 79 = some (.int .u64) := by kernel_rfl
theorem siz64 (w : World) : (sizeOf 79).run Try.prog w = .ok 1 w := by kernel_rfl
theorem part6 (w : World) (xs : Array Value) (i : Nat) (v : Value) (h : xs[i]? = some v) : (part 79 xs i).run Try.prog w = .ok v w := by
  simp [part, isAgg, run_underlying und64, h]
set_option maxRecDepth 100000 in
theorem eq6 (w : World) (x0 x1 x2 x3 x4 x5 y0 y1 y2 y3 y4 y5 : Int) : Sem.run Try.prog (Op.equalIn 10000 80 (.agg #[.int .u64 x0, .int .u64 x1, .int .u64 x2, .int .u64 x3, .int .u64 x4, .int .u64 x5]) (.agg #[.int .u64 y0, .int .u64 y1, .int .u64 y2, .int .u64 y3, .int .u64 y4, .int .u64 y5])) w = .ok (x0 == y0 && (x1 == y1 && (x2 == y2 && (x3 == y3 && (x4 == y4 && x5 == y5))))) w := by
  show Sem.run Try.prog (Op.equalIn (9998 + 2) _ _ _) w = _
  have e : ∀ (w : World) a b, (Op.equalIn 9999 79 (.int .u64 a) (.int .u64 b)).run Try.prog w = .ok (a == b) w := fun w a b => run_equalIn_int w 9998 79 .u64 .u64 a b und64
  have p0 : ∀ (w : World) a0 a1 a2 a3 a4 a5, (part 79 #[a0, a1, a2, a3, a4, a5] 0).run Try.prog w = .ok a0 w := fun w _ _ _ _ _ _ => part6 w _ 0 _ rfl
  have p1 : ∀ (w : World) a0 a1 a2 a3 a4 a5, (part 79 #[a0, a1, a2, a3, a4, a5] 1).run Try.prog w = .ok a1 w := fun w _ _ _ _ _ _ => part6 w _ 1 _ rfl
  have p2 : ∀ (w : World) a0 a1 a2 a3 a4 a5, (part 79 #[a0, a1, a2, a3, a4, a5] 2).run Try.prog w = .ok a2 w := fun w _ _ _ _ _ _ => part6 w _ 2 _ rfl
  have p3 : ∀ (w : World) a0 a1 a2 a3 a4 a5, (part 79 #[a0, a1, a2, a3, a4, a5] 3).run Try.prog w = .ok a3 w := fun w _ _ _ _ _ _ => part6 w _ 3 _ rfl
  have p4 : ∀ (w : World) a0 a1 a2 a3 a4 a5, (part 79 #[a0, a1, a2, a3, a4, a5] 4).run Try.prog w = .ok a4 w := fun w _ _ _ _ _ _ => part6 w _ 4 _ rfl
  have p5 : ∀ (w : World) a0 a1 a2 a3 a4 a5, (part 79 #[a0, a1, a2, a3, a4, a5] 5).run Try.prog w = .ok a5 w := fun w _ _ _ _ _ _ => part6 w _ 5 _ rfl
  rw [Op.equalIn]
  simp only [Sem.run_bind, run_underlying und6, Result.andThen_ok, siz64, Std.Legacy.Range.forIn_eq_forIn_range', Std.Legacy.Range.size, Nat.sub_zero, Nat.add_sub_cancel, Nat.div_one]
  simp only [List.range'_succ, List.range'_zero, List.forIn_cons, List.forIn_nil, Nat.zero_add, Nat.reduceAdd, Nat.reduceMul, Nat.zero_mul, Sem.run_bind, p0, Result.andThen_ok, e]
  cases x0 == y0
  · simp only [Bool.not_false, if_true, Bool.false_and, Sem.run_pure, Result.andThen_ok]
  simp only [Bool.not_true, Bool.false_eq_true, if_false, Bool.true_and, Sem.run_pure, Sem.run_bind, Result.andThen_ok, p1, e]
  cases x1 == y1
  · simp only [Bool.not_false, if_true, Bool.false_and, Sem.run_pure, Result.andThen_ok]
  simp only [Bool.not_true, Bool.false_eq_true, if_false, Bool.true_and, Sem.run_pure, Sem.run_bind, Result.andThen_ok, p2, e]
  cases x2 == y2
  · simp only [Bool.not_false, if_true, Bool.false_and, Sem.run_pure, Result.andThen_ok]
  simp only [Bool.not_true, Bool.false_eq_true, if_false, Bool.true_and, Sem.run_pure, Sem.run_bind, Result.andThen_ok, p3, e]
  cases x3 == y3
  · simp only [Bool.not_false, if_true, Bool.false_and, Sem.run_pure, Result.andThen_ok]
  simp only [Bool.not_true, Bool.false_eq_true, if_false, Bool.true_and, Sem.run_pure, Sem.run_bind, Result.andThen_ok, p4, e]
  cases x4 == y4
  · simp only [Bool.not_false, if_true, Bool.false_and, Sem.run_pure, Result.andThen_ok]
  simp only [Bool.not_true, Bool.false_eq_true, if_false, Bool.true_and, Sem.run_pure, Sem.run_bind, Result.andThen_ok, p5, e]
  cases x5 == y5
  · simp only [Bool.not_false, if_true, Sem.run_pure, Result.andThen_ok]
  · simp only [Bool.not_true, Bool.false_eq_true, if_false, Sem.run_pure, Result.andThen_ok]

theorem u64_inj {x y : Int} (hx : i64 x) (hy : i64 y) : (IntKind.u64.wrap x == IntKind.u64.wrap y) = decide (x = y) := by
  obtain ⟨h1, h2⟩ := hx
  obtain ⟨h3, h4⟩ := hy
  rw [Bool.eq_iff_iff, beq_iff_eq, decide_eq_true_iff, IntKind.wrap_u64, IntKind.wrap_u64]
  constructor
  · intro h
    omega
  · intro h
    rw [h]
theorem u64_inj1 {x y : Int} (hx : i64 x) (hy : i64 y) : (IntKind.u64.wrap (wrap64 (x + 1)) == IntKind.u64.wrap (wrap64 (y + 1))) = decide (x = y) := by
  obtain ⟨h1, h2⟩ := hx
  obtain ⟨h3, h4⟩ := hy
  rw [Bool.eq_iff_iff, beq_iff_eq, decide_eq_true_iff, IntKind.wrap_u64, IntKind.wrap_u64]
  unfold wrap64
  constructor
  · intro h
    omega
  · intro h
    rw [h]
/-- Numbers of two anchors, held against each other. -/
theorem eqNums (w : World) {a b : AncS} (ha : numsI a) (hb : numsI b) : Sem.run Try.prog (Op.equalIn 10000 80 (.agg (u6 a).toArray) (.agg (u6 b).toArray)) w = .ok (sameNs a b) w := by
  obtain ⟨a0, a1, a2, a3, a4, a5⟩ := ha
  obtain ⟨b0, b1, b2, b3, b4, b5⟩ := hb
  unfold u6 sameNs
  rw [eq6, u64_inj a0 b0, u64_inj a1 b1, u64_inj a2 b2, u64_inj1 a3 b3, u64_inj a4 b4, u64_inj a5 b5]

set_option maxRecDepth 100000 in
theorem oSameKek (w : World) {A B : Nat → Prop} {x y : KekS} {s t : Option Addr} {m n c d : Nat} (hx : BA A w s m c x.key) (hy : BA B w t n d y.key) : Calls Try.prog 54 #[.agg (kkc x s m c).toArray, .agg (kkc y t n d).toArray] w fun e w' => e = .returned (.bool (sameK x y)) ∧ Below w.heap.size w w' := by
  obtain ⟨xb, xg, xk⟩ := x
  obtain ⟨yb, yg, yk⟩ := y
  unfold sameK kkc
  dsimp only at hx hy ⊢
  have CS : Hid (∀ u, Below w.heap.size w u → Calls Try.prog 52 #[.slice s m c, .slice t n d] u fun e w' => e = .returned (.bool (decide (xk = yk))) ∧ u = w') := fun u hu => oSame u (hx.grow hu).1 (hy.grow hu).1
  clear hx hy
  generalize decide (xk = yk) = v at *
  by_cases h0 : xb = yb
  · have b0 : (xb == yb) = true := by simp [h0]
    by_cases h1 : xg = yg
    · have b1 : (xg == yg) = true := by simp [h1]
      rw [decide_eq_true h0, decide_eq_true h1, Bool.true_and, Bool.true_and]
      clear h0 h1
      go_enter Try.func54, Try.ntmps54
      go_wp2_with fail
      refine (CS.out _ (below2 _ _ _)).mono ?_
      rintro e w1 ⟨rfl, rfl⟩
      go_wp2_with fail
      go_ret
      exact ⟨rfl, below2 _ _ _⟩
    · have b1 : (xg == yg) = false := by simp [h1]
      rw [decide_eq_true h0, decide_eq_false h1, Bool.true_and, Bool.false_and]
      clear h0 h1 CS
      go_enter Try.func54, Try.ntmps54
      go_wp2_with fail
      go_ret
      exact ⟨rfl, below2 _ _ _⟩
  · have b0 : (xb == yb) = false := by simp [h0]
    rw [decide_eq_false h0, Bool.false_and]
    clear h0 CS
    go_enter Try.func54, Try.ntmps54
    go_wp2_with fail
    go_ret
    exact ⟨rfl, below2 _ _ _⟩

/-- Keys that are two rows of memory. -/
theorem Sl.kek {A : Nat → Prop} {w wr : World} {a : Option Addr} {n c : Nat} {l : List KekS} (h : Sl (elK A) 3 A w a n c l) (hb : Below w.heap.size w wr) {k : Nat} {x : KekS} (hx : l[k]? = some x) : ∃ b o s m q, a = some ⟨b, o, none⟩ ∧ b < wr.heap.size ∧ wr.rangeAt b (o + k * 3) (kkc x s m q) ∧ BA A wr s m q x.key := by
  obtain ⟨b, o, vs, ha, hlt, hrg, hl, s, m, q, rfl, hB, _, _⟩ := Sl.at (h.keep hb.size (elK.keep hb.size fun j hj _ => hb.block j hj) (fun j hj _ => hb.block j hj)) hx
  exact ⟨b, o, s, m, q, ha, hlt, hrg, hB⟩
set_option maxRecDepth 100000 in
set_option maxHeartbeats 4000000 in
theorem oEqualFunc (w : World) {A B : Nat → Prop} {a b : Option Addr} {n m c d : Nat} {l r : List KekS} (h1 : Sl (elK A) 3 A w a n c l) (h2 : Sl (elK B) 3 B w b m d r) : Calls Try.prog 53 #[.slice a n c, .slice b m d, .func (.func 54) #[] #[]] w fun e w' => e = .returned (.bool (sameKs l r)) ∧ Below w.heap.size w w' := by
  have hl1 := Sl.len h1
  have hl2 := Sl.len h2
  have hc1 := Sl.cap h1
  have hc2 := Sl.cap h2
  unfold maxLen at hc1 hc2
  have hcall := Try.call54
  have H1 : Hid (Sl (elK A) 3 A w a n c l) := h1
  have H2 : Hid (Sl (elK B) 3 B w b m d r) := h2
  clear h1 h2
  by_cases hnm : n = m
  · subst hnm
    go_enter Try.func53, Try.ntmps53
    go_wp2_with fail
    go_loopw [17] (fun i wr => ∃ k : Nat, k ≤ n ∧ i = .int .i64 (k : Int) ∧ Hid (sameKs l r = sameKs (l.drop k) (r.drop k)) ∧ Below w.heap.size w wr) (fun i _ => n - (intOf i).toNat)
    case atStart => exact ⟨0, Nat.zero_le _, rfl, rfl, Below.refl _ _⟩
    case round =>
      obtain ⟨k, hk, rfl, HI, hb⟩ := hrel
      by_cases hlt : k < n
      · have i0 : (k : Int) < (n : Int) := by omega
        obtain ⟨x, hx⟩ : ∃ x, l[k]? = some x := ⟨_, List.getElem?_eq_getElem (by omega)⟩
        obtain ⟨y, hy⟩ : ∃ y, r[k]? = some y := ⟨_, List.getElem?_eq_getElem (by omega)⟩
        obtain ⟨b1, o1, s1, m1, q1, e1, hlb1, hr1, hB1⟩ := H1.out.kek hb hx
        obtain ⟨b2, o2, s2, m2, q2, e2, hlb2, hr2, hB2⟩ := H2.out.kek hb hy
        subst e1 e2
        have hd := sameKs_drop hx hy
        obtain ⟨g1, hg1⟩ : ∃ g1, g1 = wr.heap.size := ⟨_, rfl⟩
        have z1 : Blk (wr.alloc (.cells #[.int .i64 0, .int .i64 0, .slice none 0 0] 78)) g1 [.int .i64 0, .int .i64 0, .slice none 0 0] 78 := Blk.newAt wr _ _ g1 hg1.symm _ rfl
        have k1 : Below wr.heap.size wr (wr.alloc (.cells #[.int .i64 0, .int .i64 0, .slice none 0 0] 78)) := below_alloc _ _
        go_wp2_with (first
          | ((with_reducible refine at_ld 78 ?_); (first | (refine ld 78 (.tmp 20) 3 sizeKk _ Try.underlying78 rfl b1 (o1 + k * 3) (kkc x s1 m1 q1) rfl hr1 rfl ?_) | (refine ld 78 (.tmp 24) 3 sizeKk _ Try.underlying78 rfl b2 (o2 + k * 3) (kkc y s2 m2 q2) rfl hr2' rfl ?_) | (refine ld 78 (.tmp 8) 3 sizeKk _ Try.underlying78 rfl wr.heap.size 0 (kkc x s1 m1 q1) rfl (by rw [← hg1]; exact c6.whole) rfl ?_) | (refine ld 78 (.tmp 9) 3 sizeKk _ Try.underlying78 rfl v5.heap.size 0 (kkc y s2 m2 q2) rfl (by rw [← hg2]; exact b6.whole) rfl ?_)))
          | ((with_reducible refine at_st 78 ?_); (first
            | ((refine st' 78 (.tmp 8) (.tmp 21) 3 sizeKk wr.heap.size 0 (kkc x s1 m1 q1) rfl (kkc_one _ _ _ _) (by rw [← hg1]; exact z1.there 0 3 (by simp)) rfl rfl ?_); intro v5 hv5; have b5 : Blk v5 g1 (kkc x s1 m1 q1) 78 := (by rw [hv5, ← hg1]; exact z1.setsW _ rfl); have k5 : Below wr.heap.size wr v5 := (by rw [hv5]; exact below_sets (Nat.le_refl _) _ k1 0); have hlb2' : b2 < v5.heap.size := Nat.lt_of_lt_of_le hlb2 k5.size; have hr2' : v5.rangeAt b2 (o2 + k * 3) (kkc y s2 m2 q2) := (fun j v hj => by rw [World.cell?_of_block (w := wr) (k5.block b2 hlb2)]; exact hr2 j v hj); obtain ⟨g2, hg2⟩ : ∃ g2, g2 = v5.heap.size := ⟨_, rfl⟩; have z2 : Blk (v5.alloc (.cells #[.int .i64 0, .int .i64 0, .slice none 0 0] 78)) g2 [.int .i64 0, .int .i64 0, .slice none 0 0] 78 := Blk.newAt v5 _ _ g2 hg2.symm _ rfl; have k2 : Below v5.heap.size v5 (v5.alloc (.cells #[.int .i64 0, .int .i64 0, .slice none 0 0] 78)) := below_alloc _ _; clear hv5 z1 k1)
            | ((refine st' 78 (.tmp 9) (.tmp 25) 3 sizeKk v5.heap.size 0 (kkc y s2 m2 q2) rfl (kkc_one _ _ _ _) (by rw [← hg2]; exact z2.there 0 3 (by simp)) rfl rfl ?_); intro v6 hv6; have b6 : Blk v6 g2 (kkc y s2 m2 q2) 78 := (by rw [hv6, ← hg2]; exact z2.setsW _ rfl); have k6 : Below v5.heap.size v5 v6 := (by rw [hv6]; exact below_sets (Nat.le_refl _) _ k2 0); have c6 := b5.below k6 b5.lt; clear hv6 z2 k2))))
        have k7 : Below wr.heap.size wr v6 := k5.trans (k6.mono k5.size)
        have CK : Hid (Calls Try.prog 54 #[.agg (kkc x s1 m1 q1).toArray, .agg (kkc y s2 m2 q2).toArray] v6 fun e w' => e = .returned (.bool (sameK x y)) ∧ Below v6.heap.size v6 w') := oSameKek v6 (hB1.grow k7) (hB2.grow k7)
        clear hB1 hB2 hr1 hr2 hr2' b5 b6 c6
        generalize sameK x y = v at *
        refine CK.out.mono ?_
        rintro e v8 ⟨rfl, hb8⟩
        have k8 : Below w.heap.size w v8 := (hb.trans (k7.mono hb.size)).trans (hb8.mono (Nat.le_trans hb.size k7.size))
        clear CK hb8 k7 k6 k5 hb
        cases v with
        | true =>
          have HN : Hid (sameKs l r = sameKs (l.drop (k + 1)) (r.drop (k + 1))) := by show _ = _; rw [HI.out, hd, Bool.true_and]
          clear hd HI hx hy
          go_wp2_with fail
          go_roundw
          case rel => exact ⟨k + 1, by omega, by go_num, HN, k8⟩
          case measure => simp [intOf]; omega
        | false =>
          have HN : Hid (sameKs l r = false) := by show _ = _; rw [HI.out, hd, Bool.false_and]
          clear hd HI hx hy
          go_wp2_with fail
          go_ret
          exact ⟨by rw [HN.out]; rfl, k8⟩
      · have i0 : ¬ (k : Int) < (n : Int) := by omega
        have HN : Hid (sameKs l r = true) := by show _ = _; rw [HI.out, List.drop_of_length_le (by omega), List.drop_of_length_le (by omega)]; rfl
        clear HI
        go_wp2_with fail
        go_ret
        exact ⟨by rw [HN.out]; rfl, hb⟩
  · rw [sameKs_len (by omega)]
    have b0 : ((n : Int) == (m : Int)) = false := by simp; omega
    clear H1 H2 hl1 hl2
    go_enter Try.func53, Try.ntmps53
    go_wp2_with fail
    go_ret
    exact ⟨rfl, Below.refl _ _⟩

end Go.Proofs.Ytbifikeecmaakaa

/-
  The contract of layer 14's program: Same. Conditions: none.
-/
namespace Go.Proofs.Ytbifikeecmaakaa
open Go.RowKit

set_option maxRecDepth 100000 in
set_option maxHeartbeats 4000000 in
theorem oSameA (w : World) {A B : Nat → Prop} {a b : AncS} {p q r s : Tri} (h1 : Anc A w a p q) (h2 : Anc B w b r s) : Calls Try.prog 17 #[anV a p q, anV b r s] w fun e w' => e = .returned (.bool (sameA a b)) ∧ Below w.heap.size w w' := by
  obtain ⟨W, hW⟩ : ∃ W, W = (w.alloc (.cells (anc a p q).toArray 25)).alloc (.cells (anc b r s).toArray 25) := ⟨_, rfl⟩
  have bA : Blk W w.heap.size (anc a p q) 25 := by rw [hW]; exact (Blk.newAt w _ _ w.heap.size rfl _ rfl).old _
  have bB : Blk W (w.heap.size + 1) (anc b r s) 25 := by rw [hW]; exact Blk.newAt (w.alloc _) _ _ (w.heap.size + 1) (by simp) _ rfl
  have kW : Below w.heap.size w W := by rw [hW]; exact below2 _ _ _
  have HE : Hid (∀ w, Sem.run Try.prog (Op.equalIn 10000 80 (.agg (u6 a).toArray) (.agg (u6 b).toArray)) w = .ok (sameNs a b) w) := fun w => eqNums w h1.ns h2.ns
  have CS : Hid (∀ u, Grows W u → Calls Try.prog 52 #[.slice p.la p.ln p.lc, .slice r.la r.ln r.lc] u fun e w' => e = .returned (.bool (decide (a.master = b.master))) ∧ Below u.heap.size u w') := fun u hu => (oSame u ((h1.below (kW.trans (Below.mono hu kW.size))).ma.1) ((h2.below (kW.trans (Below.mono hu kW.size))).ma.1)).mono (by rintro e w' ⟨rfl, rfl⟩; exact ⟨rfl, Below.refl _ _⟩)
  have CE : Hid (∀ u, Grows W u → Calls Try.prog 53 #[.slice q.la q.ln q.lc, .slice s.la s.ln s.lc, .func (.func 54) #[] #[]] u fun e w' => e = .returned (.bool (sameKs a.keks b.keks)) ∧ Below u.heap.size u w') := fun u hu => oEqualFunc u ((h1.below (kW.trans (Below.mono hu kW.size))).ks) ((h2.below (kW.trans (Below.mono hu kW.size))).ks)
  have X6 : ∀ u, Grows W u → u.cell? ⟨w.heap.size, 6, none⟩ = some (.slice p.la p.ln p.lc) := fun u hu => (bA.below hu bA.lt).cell 6
  have X7 : ∀ u, Grows W u → u.cell? ⟨w.heap.size, 7, none⟩ = some (.slice q.la q.ln q.lc) := fun u hu => (bA.below hu bA.lt).cell 7
  have Y6 : ∀ u, Grows W u → u.cell? ⟨w.heap.size + 1, 6, none⟩ = some (.slice r.la r.ln r.lc) := fun u hu => (bB.below hu bB.lt).cell 6
  have Y7 : ∀ u, Grows W u → u.cell? ⟨w.heap.size + 1, 7, none⟩ = some (.slice s.la s.ln s.lc) := fun u hu => (bB.below hu bB.lt).cell 7
  clear h1 h2
  unfold sameA anV
  generalize sameKs a.keks b.keks = kv at *
  generalize decide (a.master = b.master) = mv at *
  generalize sameNs a b = nv at *
  cases nv with
  | true =>
    cases mv with
    | true =>
      rw [Bool.true_and, Bool.true_and]
      go_enter Try.func17, Try.ntmps17
      go_wp2_with fail
      rw [← hW]
      refine regionG (S := Grows W) (by kernel_rfl) (Below.refl _ W).drew ?_
      refine takeG 0 (some 5) (.agg (anc a p q).toArray) rfl rfl (by kernel_rfl) (by kernel_rfl) (by kernel_rfl) (fun _ _ _ h => h) (ans_row 25 (.tmp 2) _ 8 rfl (by rfl) w.heap.size 0 rfl (anc a p q) (fun u hu => (bA.below hu bA.lt).whole) Try.underlying25 rfl rfl sizeAn) ?_
      simp only [Act.put, List.setIfInBounds_toArray, List.set_cons_zero, List.set_cons_succ]
      refine takeG 1 (some 6) (.agg (u6 a).toArray) rfl rfl (by kernel_rfl) (by kernel_rfl) (by kernel_rfl) (fun _ _ _ h => h) (ans_fn 38 #[.tmp 5] #[25] #[.agg (anc a p q).toArray] rfl (by rfl) (by rfl) Try.call38 fun u h => oNumbersA u a p q) ?_
      simp only [Act.put, List.setIfInBounds_toArray, List.set_cons_zero, List.set_cons_succ]
      refine takeG 2 (some 7) (.agg (anc b r s).toArray) rfl rfl (by kernel_rfl) (by kernel_rfl) (by kernel_rfl) (fun _ _ _ h => h) (ans_row 25 (.tmp 3) _ 8 rfl (by rfl) (w.heap.size + 1) 0 rfl (anc b r s) (fun u hu => (bB.below hu bB.lt).whole) Try.underlying25 rfl rfl sizeAn) ?_
      simp only [Act.put, List.setIfInBounds_toArray, List.set_cons_zero, List.set_cons_succ]
      refine takeG 3 (some 8) (.agg (u6 b).toArray) rfl rfl (by kernel_rfl) (by kernel_rfl) (by kernel_rfl) (fun _ _ _ h => h) (ans_fn 38 #[.tmp 7] #[25] #[.agg (anc b r s).toArray] rfl (by rfl) (by rfl) Try.call38 fun u h => oNumbersA u b r s) ?_
      simp only [Act.put, List.setIfInBounds_toArray, List.set_cons_zero, List.set_cons_succ]
      refine takeG 4 (some 9) (.bool true) rfl rfl (by kernel_rfl) (by kernel_rfl) (by kernel_rfl) (fun _ _ _ h => h) (ans_plain (by rfl) (fun w _ => by have he := HE.out w; unfold execOp; go_simp)) ?_
      simp only [Act.put, List.setIfInBounds_toArray, List.set_cons_zero, List.set_cons_succ]
      refine takeG 5 (some 10) (.bool true) rfl rfl (by kernel_rfl) (by kernel_rfl) (by kernel_rfl) (fun _ _ _ h => h) (ans_plain (by rfl) (fun w _ => rfl)) ?_
      simp only [Act.put, List.setIfInBounds_toArray, List.set_cons_zero, List.set_cons_succ]
      refine takeG 6 (some 11) (.pointer (some ⟨w.heap.size, 6, none⟩)) rfl rfl (by kernel_rfl) (by kernel_rfl) (by kernel_rfl) (fun _ _ _ h => h) (ans_plain (by rfl) (fun w _ => by unfold execOp; go_simp)) ?_
      simp only [Act.put, List.setIfInBounds_toArray, List.set_cons_zero, List.set_cons_succ]
      refine takeG 7 (some 12) (.slice p.la p.ln p.lc) rfl rfl (by kernel_rfl) (by kernel_rfl) (by kernel_rfl) (fun _ _ _ h => h) (ans_plain (by rfl) (fun w h => by have hc := X6 w h; unfold execOp; go_simp)) ?_
      simp only [Act.put, List.setIfInBounds_toArray, List.set_cons_zero, List.set_cons_succ]
      refine takeG 8 (some 13) (.pointer (some ⟨w.heap.size + 1, 6, none⟩)) rfl rfl (by kernel_rfl) (by kernel_rfl) (by kernel_rfl) (fun _ _ _ h => h) (ans_plain (by rfl) (fun w _ => by unfold execOp; go_simp)) ?_
      simp only [Act.put, List.setIfInBounds_toArray, List.set_cons_zero, List.set_cons_succ]
      refine takeG 9 (some 14) (.slice r.la r.ln r.lc) rfl rfl (by kernel_rfl) (by kernel_rfl) (by kernel_rfl) (fun _ _ _ h => h) (ans_plain (by rfl) (fun w h => by have hc := Y6 w h; unfold execOp; go_simp)) ?_
      simp only [Act.put, List.setIfInBounds_toArray, List.set_cons_zero, List.set_cons_succ]
      refine takeG 10 (some 15) (.bool true) rfl rfl (by kernel_rfl) (by kernel_rfl) (by kernel_rfl) (fun _ _ _ h => h) (ans_fn 52 #[.tmp 12, .tmp 14] #[22, 22] #[.slice p.la p.ln p.lc, .slice r.la r.ln r.lc] rfl (by rfl) (by rfl) Try.call52 fun u h => CS.out u h) ?_
      simp only [Act.put, List.setIfInBounds_toArray, List.set_cons_zero, List.set_cons_succ]
      refine takeG 11 (some 16) (.bool true) rfl rfl (by kernel_rfl) (by kernel_rfl) (by kernel_rfl) (fun _ _ _ h => h) (ans_plain (by rfl) (fun w _ => by unfold execOp; go_simp)) ?_
      simp only [Act.put, List.setIfInBounds_toArray, List.set_cons_zero, List.set_cons_succ]
      refine takeG 12 (some 17) (.bool true) rfl rfl (by kernel_rfl) (by kernel_rfl) (by kernel_rfl) (fun _ _ _ h => h) (ans_plain (by rfl) (fun w _ => rfl)) ?_
      simp only [Act.put, List.setIfInBounds_toArray, List.set_cons_zero, List.set_cons_succ]
      refine takeG 13 (some 18) (.pointer (some ⟨w.heap.size, 7, none⟩)) rfl rfl (by kernel_rfl) (by kernel_rfl) (by kernel_rfl) (fun _ _ _ h => h) (ans_plain (by rfl) (fun w _ => by unfold execOp; go_simp)) ?_
      simp only [Act.put, List.setIfInBounds_toArray, List.set_cons_zero, List.set_cons_succ]
      refine takeG 14 (some 19) (.slice q.la q.ln q.lc) rfl rfl (by kernel_rfl) (by kernel_rfl) (by kernel_rfl) (fun _ _ _ h => h) (ans_plain (by rfl) (fun w h => by have hc := X7 w h; unfold execOp; go_simp)) ?_
      simp only [Act.put, List.setIfInBounds_toArray, List.set_cons_zero, List.set_cons_succ]
      refine takeG 15 (some 20) (.pointer (some ⟨w.heap.size + 1, 7, none⟩)) rfl rfl (by kernel_rfl) (by kernel_rfl) (by kernel_rfl) (fun _ _ _ h => h) (ans_plain (by rfl) (fun w _ => by unfold execOp; go_simp)) ?_
      simp only [Act.put, List.setIfInBounds_toArray, List.set_cons_zero, List.set_cons_succ]
      refine takeG 16 (some 21) (.slice s.la s.ln s.lc) rfl rfl (by kernel_rfl) (by kernel_rfl) (by kernel_rfl) (fun _ _ _ h => h) (ans_plain (by rfl) (fun w h => by have hc := Y7 w h; unfold execOp; go_simp)) ?_
      simp only [Act.put, List.setIfInBounds_toArray, List.set_cons_zero, List.set_cons_succ]
      refine takeG 17 (some 22) (.bool kv) rfl rfl (by kernel_rfl) (by kernel_rfl) (by kernel_rfl) (fun _ _ _ h => h) (ans_fn 53 #[.tmp 19, .tmp 21, .func 54] #[23, 23, 101] #[.slice q.la q.ln q.lc, .slice s.la s.ln s.lc, .func (.func 54) #[] #[]] rfl (by rfl) (by rfl) Try.call53 fun u h => CE.out u h) ?_
      simp only [Act.put, List.setIfInBounds_toArray, List.set_cons_zero, List.set_cons_succ]
      refine takeG 18 (some 23) (.bool kv) rfl rfl (by kernel_rfl) (by kernel_rfl) (by kernel_rfl) (fun _ _ _ h => h) (ans_plain (by rfl) (fun w _ => by unfold execOp; go_simp)) ?_
      simp only [Act.put, List.setIfInBounds_toArray, List.set_cons_zero, List.set_cons_succ]
      refine takeG 19 (some 4) (.bool kv) rfl rfl (by kernel_rfl) (by kernel_rfl) (by kernel_rfl) (fun _ _ _ h => h) (ans_plain (by rfl) (fun w _ => rfl)) ?_
      simp only [Act.put, List.setIfInBounds_toArray, List.set_cons_zero, List.set_cons_succ]
      refine doneG (by kernel_rfl) fun x7 hg7 hs7 => ?_
      have HB : Hid (Below w.heap.size w x7) := kW.trans (Below.mono hs7 kW.size)
      clear hW bA bB kW hs7 hg7
      go_wp2_with fail
      go_ret
      exact ⟨rfl, HB.out⟩
    | false =>
      rw [Bool.true_and, Bool.false_and]
      go_enter Try.func17, Try.ntmps17
      go_wp2_with fail
      rw [← hW]
      refine regionG (S := Grows W) (by kernel_rfl) (Below.refl _ W).drew ?_
      refine takeG 0 (some 5) (.agg (anc a p q).toArray) rfl rfl (by kernel_rfl) (by kernel_rfl) (by kernel_rfl) (fun _ _ _ h => h) (ans_row 25 (.tmp 2) _ 8 rfl (by rfl) w.heap.size 0 rfl (anc a p q) (fun u hu => (bA.below hu bA.lt).whole) Try.underlying25 rfl rfl sizeAn) ?_
      simp only [Act.put, List.setIfInBounds_toArray, List.set_cons_zero, List.set_cons_succ]
      refine takeG 1 (some 6) (.agg (u6 a).toArray) rfl rfl (by kernel_rfl) (by kernel_rfl) (by kernel_rfl) (fun _ _ _ h => h) (ans_fn 38 #[.tmp 5] #[25] #[.agg (anc a p q).toArray] rfl (by rfl) (by rfl) Try.call38 fun u h => oNumbersA u a p q) ?_
      simp only [Act.put, List.setIfInBounds_toArray, List.set_cons_zero, List.set_cons_succ]
      refine takeG 2 (some 7) (.agg (anc b r s).toArray) rfl rfl (by kernel_rfl) (by kernel_rfl) (by kernel_rfl) (fun _ _ _ h => h) (ans_row 25 (.tmp 3) _ 8 rfl (by rfl) (w.heap.size + 1) 0 rfl (anc b r s) (fun u hu => (bB.below hu bB.lt).whole) Try.underlying25 rfl rfl sizeAn) ?_
      simp only [Act.put, List.setIfInBounds_toArray, List.set_cons_zero, List.set_cons_succ]
      refine takeG 3 (some 8) (.agg (u6 b).toArray) rfl rfl (by kernel_rfl) (by kernel_rfl) (by kernel_rfl) (fun _ _ _ h => h) (ans_fn 38 #[.tmp 7] #[25] #[.agg (anc b r s).toArray] rfl (by rfl) (by rfl) Try.call38 fun u h => oNumbersA u b r s) ?_
      simp only [Act.put, List.setIfInBounds_toArray, List.set_cons_zero, List.set_cons_succ]
      refine takeG 4 (some 9) (.bool true) rfl rfl (by kernel_rfl) (by kernel_rfl) (by kernel_rfl) (fun _ _ _ h => h) (ans_plain (by rfl) (fun w _ => by have he := HE.out w; unfold execOp; go_simp)) ?_
      simp only [Act.put, List.setIfInBounds_toArray, List.set_cons_zero, List.set_cons_succ]
      refine takeG 5 (some 10) (.bool true) rfl rfl (by kernel_rfl) (by kernel_rfl) (by kernel_rfl) (fun _ _ _ h => h) (ans_plain (by rfl) (fun w _ => rfl)) ?_
      simp only [Act.put, List.setIfInBounds_toArray, List.set_cons_zero, List.set_cons_succ]
      refine takeG 6 (some 11) (.pointer (some ⟨w.heap.size, 6, none⟩)) rfl rfl (by kernel_rfl) (by kernel_rfl) (by kernel_rfl) (fun _ _ _ h => h) (ans_plain (by rfl) (fun w _ => by unfold execOp; go_simp)) ?_
      simp only [Act.put, List.setIfInBounds_toArray, List.set_cons_zero, List.set_cons_succ]
      refine takeG 7 (some 12) (.slice p.la p.ln p.lc) rfl rfl (by kernel_rfl) (by kernel_rfl) (by kernel_rfl) (fun _ _ _ h => h) (ans_plain (by rfl) (fun w h => by have hc := X6 w h; unfold execOp; go_simp)) ?_
      simp only [Act.put, List.setIfInBounds_toArray, List.set_cons_zero, List.set_cons_succ]
      refine takeG 8 (some 13) (.pointer (some ⟨w.heap.size + 1, 6, none⟩)) rfl rfl (by kernel_rfl) (by kernel_rfl) (by kernel_rfl) (fun _ _ _ h => h) (ans_plain (by rfl) (fun w _ => by unfold execOp; go_simp)) ?_
      simp only [Act.put, List.setIfInBounds_toArray, List.set_cons_zero, List.set_cons_succ]
      refine takeG 9 (some 14) (.slice r.la r.ln r.lc) rfl rfl (by kernel_rfl) (by kernel_rfl) (by kernel_rfl) (fun _ _ _ h => h) (ans_plain (by rfl) (fun w h => by have hc := Y6 w h; unfold execOp; go_simp)) ?_
      simp only [Act.put, List.setIfInBounds_toArray, List.set_cons_zero, List.set_cons_succ]
      refine takeG 10 (some 15) (.bool false) rfl rfl (by kernel_rfl) (by kernel_rfl) (by kernel_rfl) (fun _ _ _ h => h) (ans_fn 52 #[.tmp 12, .tmp 14] #[22, 22] #[.slice p.la p.ln p.lc, .slice r.la r.ln r.lc] rfl (by rfl) (by rfl) Try.call52 fun u h => CS.out u h) ?_
      simp only [Act.put, List.setIfInBounds_toArray, List.set_cons_zero, List.set_cons_succ]
      refine takeG 11 (some 16) (.bool false) rfl rfl (by kernel_rfl) (by kernel_rfl) (by kernel_rfl) (fun _ _ _ h => h) (ans_plain (by rfl) (fun w _ => by unfold execOp; go_simp)) ?_
      simp only [Act.put, List.setIfInBounds_toArray, List.set_cons_zero, List.set_cons_succ]
      refine takeG 12 (some 17) (.bool false) rfl rfl (by kernel_rfl) (by kernel_rfl) (by kernel_rfl) (fun _ _ _ h => h) (ans_plain (by rfl) (fun w _ => rfl)) ?_
      simp only [Act.put, List.setIfInBounds_toArray, List.set_cons_zero, List.set_cons_succ]
      refine takeG 13 (some 18) (undef) rfl rfl (by kernel_rfl) (by kernel_rfl) (by kernel_rfl) (fun _ _ _ h => h) (Or.inr ⟨by rfl, rfl⟩) ?_
      simp only [Act.put, List.setIfInBounds_toArray, List.set_cons_zero, List.set_cons_succ]
      refine takeG 14 (some 19) (undef) rfl rfl (by kernel_rfl) (by kernel_rfl) (by kernel_rfl) (fun _ _ _ h => h) (Or.inr ⟨by rfl, rfl⟩) ?_
      simp only [Act.put, List.setIfInBounds_toArray, List.set_cons_zero, List.set_cons_succ]
      refine takeG 15 (some 20) (undef) rfl rfl (by kernel_rfl) (by kernel_rfl) (by kernel_rfl) (fun _ _ _ h => h) (Or.inr ⟨by rfl, rfl⟩) ?_
      simp only [Act.put, List.setIfInBounds_toArray, List.set_cons_zero, List.set_cons_succ]
      refine takeG 16 (some 21) (undef) rfl rfl (by kernel_rfl) (by kernel_rfl) (by kernel_rfl) (fun _ _ _ h => h) (Or.inr ⟨by rfl, rfl⟩) ?_
      simp only [Act.put, List.setIfInBounds_toArray, List.set_cons_zero, List.set_cons_succ]
      refine takeG 17 (some 22) (undef) rfl rfl (by kernel_rfl) (by kernel_rfl) (by kernel_rfl) (fun _ _ _ h => h) (Or.inr ⟨by rfl, rfl⟩) ?_
      simp only [Act.put, List.setIfInBounds_toArray, List.set_cons_zero, List.set_cons_succ]
      refine takeG 18 (some 23) (.bool false) rfl rfl (by kernel_rfl) (by kernel_rfl) (by kernel_rfl) (fun _ _ _ h => h) (ans_plain (by rfl) (fun w _ => by unfold execOp; go_simp)) ?_
      simp only [Act.put, List.setIfInBounds_toArray, List.set_cons_zero, List.set_cons_succ]
      refine takeG 19 (some 4) (.bool false) rfl rfl (by kernel_rfl) (by kernel_rfl) (by kernel_rfl) (fun _ _ _ h => h) (ans_plain (by rfl) (fun w _ => rfl)) ?_
      simp only [Act.put, List.setIfInBounds_toArray, List.set_cons_zero, List.set_cons_succ]
      refine doneG (by kernel_rfl) fun x7 hg7 hs7 => ?_
      have HB : Hid (Below w.heap.size w x7) := kW.trans (Below.mono hs7 kW.size)
      clear hW bA bB kW hs7 hg7
      go_wp2_with fail
      go_ret
      exact ⟨rfl, HB.out⟩
  | false =>
    rw [Bool.false_and]
    go_enter Try.func17, Try.ntmps17
    go_wp2_with fail
    rw [← hW]
    refine regionG (S := Grows W) (by kernel_rfl) (Below.refl _ W).drew ?_
    refine takeG 0 (some 5) (.agg (anc a p q).toArray) rfl rfl (by kernel_rfl) (by kernel_rfl) (by kernel_rfl) (fun _ _ _ h => h) (ans_row 25 (.tmp 2) _ 8 rfl (by rfl) w.heap.size 0 rfl (anc a p q) (fun u hu => (bA.below hu bA.lt).whole) Try.underlying25 rfl rfl sizeAn) ?_
    simp only [Act.put, List.setIfInBounds_toArray, List.set_cons_zero, List.set_cons_succ]
    refine takeG 1 (some 6) (.agg (u6 a).toArray) rfl rfl (by kernel_rfl) (by kernel_rfl) (by kernel_rfl) (fun _ _ _ h => h) (ans_fn 38 #[.tmp 5] #[25] #[.agg (anc a p q).toArray] rfl (by rfl) (by rfl) Try.call38 fun u h => oNumbersA u a p q) ?_
    simp only [Act.put, List.setIfInBounds_toArray, List.set_cons_zero, List.set_cons_succ]
    refine takeG 2 (some 7) (.agg (anc b r s).toArray) rfl rfl (by kernel_rfl) (by kernel_rfl) (by kernel_rfl) (fun _ _ _ h => h) (ans_row 25 (.tmp 3) _ 8 rfl (by rfl) (w.heap.size + 1) 0 rfl (anc b r s) (fun u hu => (bB.below hu bB.lt).whole) Try.underlying25 rfl rfl sizeAn) ?_
    simp only [Act.put, List.setIfInBounds_toArray, List.set_cons_zero, List.set_cons_succ]
    refine takeG 3 (some 8) (.agg (u6 b).toArray) rfl rfl (by kernel_rfl) (by kernel_rfl) (by kernel_rfl) (fun _ _ _ h => h) (ans_fn 38 #[.tmp 7] #[25] #[.agg (anc b r s).toArray] rfl (by rfl) (by rfl) Try.call38 fun u h => oNumbersA u b r s) ?_
    simp only [Act.put, List.setIfInBounds_toArray, List.set_cons_zero, List.set_cons_succ]
    refine takeG 4 (some 9) (.bool false) rfl rfl (by kernel_rfl) (by kernel_rfl) (by kernel_rfl) (fun _ _ _ h => h) (ans_plain (by rfl) (fun w _ => by have he := HE.out w; unfold execOp; go_simp)) ?_
    simp only [Act.put, List.setIfInBounds_toArray, List.set_cons_zero, List.set_cons_succ]
    refine takeG 5 (some 10) (.bool false) rfl rfl (by kernel_rfl) (by kernel_rfl) (by kernel_rfl) (fun _ _ _ h => h) (ans_plain (by rfl) (fun w _ => rfl)) ?_
    simp only [Act.put, List.setIfInBounds_toArray, List.set_cons_zero, List.set_cons_succ]
    refine takeG 6 (some 11) (undef) rfl rfl (by kernel_rfl) (by kernel_rfl) (by kernel_rfl) (fun _ _ _ h => h) (Or.inr ⟨by rfl, rfl⟩) ?_
    simp only [Act.put, List.setIfInBounds_toArray, List.set_cons_zero, List.set_cons_succ]
    refine takeG 7 (some 12) (undef) rfl rfl (by kernel_rfl) (by kernel_rfl) (by kernel_rfl) (fun _ _ _ h => h) (Or.inr ⟨by rfl, rfl⟩) ?_
    simp only [Act.put, List.setIfInBounds_toArray, List.set_cons_zero, List.set_cons_succ]
    refine takeG 8 (some 13) (undef) rfl rfl (by kernel_rfl) (by kernel_rfl) (by kernel_rfl) (fun _ _ _ h => h) (Or.inr ⟨by rfl, rfl⟩) ?_
    simp only [Act.put, List.setIfInBounds_toArray, List.set_cons_zero, List.set_cons_succ]
    refine takeG 9 (some 14) (undef) rfl rfl (by kernel_rfl) (by kernel_rfl) (by kernel_rfl) (fun _ _ _ h => h) (Or.inr ⟨by rfl, rfl⟩) ?_
    simp only [Act.put, List.setIfInBounds_toArray, List.set_cons_zero, List.set_cons_succ]
    refine takeG 10 (some 15) (undef) rfl rfl (by kernel_rfl) (by kernel_rfl) (by kernel_rfl) (fun _ _ _ h => h) (Or.inr ⟨by rfl, rfl⟩) ?_
    simp only [Act.put, List.setIfInBounds_toArray, List.set_cons_zero, List.set_cons_succ]
    refine takeG 11 (some 16) (.bool false) rfl rfl (by kernel_rfl) (by kernel_rfl) (by kernel_rfl) (fun _ _ _ h => h) (ans_plain (by rfl) (fun w _ => by unfold execOp; go_simp)) ?_
    simp only [Act.put, List.setIfInBounds_toArray, List.set_cons_zero, List.set_cons_succ]
    refine takeG 12 (some 17) (.bool false) rfl rfl (by kernel_rfl) (by kernel_rfl) (by kernel_rfl) (fun _ _ _ h => h) (ans_plain (by rfl) (fun w _ => rfl)) ?_
    simp only [Act.put, List.setIfInBounds_toArray, List.set_cons_zero, List.set_cons_succ]
    refine takeG 13 (some 18) (undef) rfl rfl (by kernel_rfl) (by kernel_rfl) (by kernel_rfl) (fun _ _ _ h => h) (Or.inr ⟨by rfl, rfl⟩) ?_
    simp only [Act.put, List.setIfInBounds_toArray, List.set_cons_zero, List.set_cons_succ]
    refine takeG 14 (some 19) (undef) rfl rfl (by kernel_rfl) (by kernel_rfl) (by kernel_rfl) (fun _ _ _ h => h) (Or.inr ⟨by rfl, rfl⟩) ?_
    simp only [Act.put, List.setIfInBounds_toArray, List.set_cons_zero, List.set_cons_succ]
    refine takeG 15 (some 20) (undef) rfl rfl (by kernel_rfl) (by kernel_rfl) (by kernel_rfl) (fun _ _ _ h => h) (Or.inr ⟨by rfl, rfl⟩) ?_
    simp only [Act.put, List.setIfInBounds_toArray, List.set_cons_zero, List.set_cons_succ]
    refine takeG 16 (some 21) (undef) rfl rfl (by kernel_rfl) (by kernel_rfl) (by kernel_rfl) (fun _ _ _ h => h) (Or.inr ⟨by rfl, rfl⟩) ?_
    simp only [Act.put, List.setIfInBounds_toArray, List.set_cons_zero, List.set_cons_succ]
    refine takeG 17 (some 22) (undef) rfl rfl (by kernel_rfl) (by kernel_rfl) (by kernel_rfl) (fun _ _ _ h => h) (Or.inr ⟨by rfl, rfl⟩) ?_
    simp only [Act.put, List.setIfInBounds_toArray, List.set_cons_zero, List.set_cons_succ]
    refine takeG 18 (some 23) (.bool false) rfl rfl (by kernel_rfl) (by kernel_rfl) (by kernel_rfl) (fun _ _ _ h => h) (ans_plain (by rfl) (fun w _ => by unfold execOp; go_simp)) ?_
    simp only [Act.put, List.setIfInBounds_toArray, List.set_cons_zero, List.set_cons_succ]
    refine takeG 19 (some 4) (.bool false) rfl rfl (by kernel_rfl) (by kernel_rfl) (by kernel_rfl) (fun _ _ _ h => h) (ans_plain (by rfl) (fun w _ => rfl)) ?_
    simp only [Act.put, List.setIfInBounds_toArray, List.set_cons_zero, List.set_cons_succ]
    refine doneG (by kernel_rfl) fun x7 hg7 hs7 => ?_
    have HB : Hid (Below w.heap.size w x7) := kW.trans (Below.mono hs7 kW.size)
    clear hW bA bB kW hs7 hg7
    go_wp2_with fail
    go_ret
    exact ⟨rfl, HB.out⟩

end Go.Proofs.Ytbifikeecmaakaa
