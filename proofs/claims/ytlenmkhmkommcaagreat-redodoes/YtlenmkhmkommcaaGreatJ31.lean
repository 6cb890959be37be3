/-
  1 texts in one. No statement of the seat is proved here.
-/
import Derived.Test.YtlenmkhmkommcaaGreatJ30

/-
  The contract of layer 16's reference's Read. Conditions: epochs up to 2^40; a disk and a book that are not too full.
-/
namespace Go.Proofs.YtlenmkhmkommcaaGreat
open Go.RowKit
set_option linter.unusedVariables false

/-- Behind the opening. -/
def MidO (A : Nat → Prop) (wr wx : World) (ta : Option Addr) (tn tc : Nat) (O : Option (List UInt8)) : Prop := BA A wx ta tn tc (O.getD []) ∧ Below wr.heap.size wr wx
/-- What Read answers. -/
def RedR (A : Nat → Prop) (R : DskS × List Chg × Int) (w : World) (e : Ending) (w' : World) : Prop := ∃ q' a m c, e = .returned (.tuple #[dv R.1 q', .slice a m c, .int .i64 R.2.2]) ∧ RD A w' R.1 q' ∧ Imgs A w' a m c R.2.1 ∧ Below w.heap.size w w'
/-- Memory of A but for a slice's own row. -/
abbrev NoRow (A : Nat → Prop) (v : Value) : Nat → Prop := fun j => A j ∧ v.ownBlock ≠ some j
/-- In the loop over the blocks. -/
structure RrI (A : Nat → Prop) (w wr : World) (nb xX xR : Nat) (D : DskS) (q : Quad) (v : Value) (acc : List Chg) (ta : Option Addr) (tn tc : Nat) (t : List UInt8) : Prop where
  rd : RD (NoRow A v) wr D q
  x : Blk wr xX (dc D q) 42
  r : Blk wr xR z40 42
  t : BA (fun j => A j ∧ j < nb) wr ta tn tc t
  o : OwS (elC A) 2 79 wr nb v acc
  bel : Below w.heap.size w wr
  le : nb ≤ wr.heap.size
theorem OwC.kp {A F : Nat → Prop} {e : TypeId} {w w' : World} {base : Nat} {v : Value} {l : List Chg} (h : OwS (elC A) 2 e w base v l) (k : Kp F w w') (hF : ∀ j, F j → j < base) (hA : ∀ j, A j → ¬ F j) : OwS (elC A) 2 e w' base v l :=
  h.keep (elC.keep fun j hj ha => k.block j hj (hA j ha)) (fun j hj => k.block j (h.lt j hj).2 fun hf => by have := (h.lt j hj).1; have := hF j hf; omega)

set_option maxRecDepth 100000 in
set_option maxHeartbeats 16000000 in
theorem rRead16 (w : World) {A : Nat → Prop} (hA : ∀ j, w.heap.size ≤ j → A j) {D : DskS} {q : Quad} (h : RD A w D q) {S : SeaS} {d : Du} (hs : RS A w S d) (hok : S.Ok) {mm : Nat} (hf : D.fit mm) (hm : mm ≤ 3900) (hz : S.book.length ≤ 1000) (hrl : (D.read 0).2.2 = 0 → (D.read 0).2.1.length = 512)
    {k : List UInt8} {ak : Option Addr} {ck : Nat} (hk : BA A w ak 32 ck k) (e n : Int) (he : -9223372036854775808 ≤ e ∧ e ≤ 1099511627776) (hn : i64 n) (hid : Hid (S.ideal = true) := by first | assumption | (show _ = _; rfl)) :
    Calls Tryz.prog 25 #[dv D q, rsV S d, .slice ak 32 ck, .int .i64 e, .int .i64 n] w (RedR A (redD D S k e n) w) := by
  have HAA : Hid (∀ j, w.heap.size ≤ j → A j) := hA
  have HR : Hid (RD A w D q) := h
  have HRS : Hid (RS A w S d) := hs
  have HF : Hid (D.fit mm) := hf
  have HK : Hid (BA A w ak 32 ck k) := hk
  have HKL : Hid (k.length = 32) := hk.1.len
  have HZ : Hid (S.book.length ≤ 1000) := hz
  have HOK : Hid S.Ok := hok
  have HRL : Hid ((D.read 0).2.2 = 0 → (D.read 0).2.1.length = 512) := hrl
  obtain ⟨P, hP⟩ : ∃ P, P = RedR A (redD D S k e n) w := ⟨_, rfl⟩
  have HP : Hid (P = RedR A (redD D S k e n) w) := hP
  rw [← hP]
  obtain ⟨n1, n2⟩ := hn
  clear h hs hf hA hP hk hz hok hrl
  have BD0 : Hid (Blk (((w.alloc (.cells #[.int .i64 (D.p.steps : Int), .int .i64 D.p.fuse, .bool D.p.done, .bool D.p.down, .int .i64 D.n, .slice q.sa q.sn q.sc, .slice q.la q.ln q.lc, .slice q.ta q.tn q.tc, .slice q.pa q.pn q.pq, .int .i64 (D.steps : Int)] 42)).alloc (.cells #[.bool S.ideal, .slice d.ba d.bn d.bc, .slice d.ca d.cn d.cc, .int .u64 (S.count : Int), .bool S.reused, .bool S.forged] 54)).alloc (.cells #[.int .i64 0, .int .i64 0, .bool false, .bool false, .int .i64 0, .slice none 0 0, .slice none 0 0, .slice none 0 0, .slice none 0 0, .int .i64 0] 42)) w.heap.size (dc D q) 42) := by
    have := ((Blk.new w #[.int .i64 (D.p.steps : Int), .int .i64 D.p.fuse, .bool D.p.done, .bool D.p.down, .int .i64 D.n, .slice q.sa q.sn q.sc, .slice q.la q.ln q.lc, .slice q.ta q.tn q.tc, .slice q.pa q.pn q.pq, .int .i64 (D.steps : Int)] 42).old (.cells #[.bool S.ideal, .slice d.ba d.bn d.bc, .slice d.ca d.cn d.cc, .int .u64 (S.count : Int), .bool S.reused, .bool S.forged] 54)).old (.cells #[.int .i64 0, .int .i64 0, .bool false, .bool false, .int .i64 0, .slice none 0 0, .slice none 0 0, .slice none 0 0, .slice none 0 0, .int .i64 0] 42)
    exact this
  have BS0 : Hid (Blk (((w.alloc (.cells #[.int .i64 (D.p.steps : Int), .int .i64 D.p.fuse, .bool D.p.done, .bool D.p.down, .int .i64 D.n, .slice q.sa q.sn q.sc, .slice q.la q.ln q.lc, .slice q.ta q.tn q.tc, .slice q.pa q.pn q.pq, .int .i64 (D.steps : Int)] 42)).alloc (.cells #[.bool S.ideal, .slice d.ba d.bn d.bc, .slice d.ca d.cn d.cc, .int .u64 (S.count : Int), .bool S.reused, .bool S.forged] 54)).alloc (.cells #[.int .i64 0, .int .i64 0, .bool false, .bool false, .int .i64 0, .slice none 0 0, .slice none 0 0, .slice none 0 0, .slice none 0 0, .int .i64 0] 42)) (w.heap.size + 1) (rsC S d) 54) := by
    have := (Blk.new (w.alloc (.cells #[.int .i64 (D.p.steps : Int), .int .i64 D.p.fuse, .bool D.p.done, .bool D.p.down, .int .i64 D.n, .slice q.sa q.sn q.sc, .slice q.la q.ln q.lc, .slice q.ta q.tn q.tc, .slice q.pa q.pn q.pq, .int .i64 (D.steps : Int)] 42)) #[.bool S.ideal, .slice d.ba d.bn d.bc, .slice d.ca d.cn d.cc, .int .u64 (S.count : Int), .bool S.reused, .bool S.forged] 54).old (.cells #[.int .i64 0, .int .i64 0, .bool false, .bool false, .int .i64 0, .slice none 0 0, .slice none 0 0, .slice none 0 0, .slice none 0 0, .int .i64 0] 42)
    rwa [show (w.alloc (.cells #[.int .i64 (D.p.steps : Int), .int .i64 D.p.fuse, .bool D.p.done, .bool D.p.down, .int .i64 D.n, .slice q.sa q.sn q.sc, .slice q.la q.ln q.lc, .slice q.ta q.tn q.tc, .slice q.pa q.pn q.pq, .int .i64 (D.steps : Int)] 42)).heap.size = w.heap.size + 1 from by simp] at this
  have BR0 : Hid (Blk (((w.alloc (.cells #[.int .i64 (D.p.steps : Int), .int .i64 D.p.fuse, .bool D.p.done, .bool D.p.down, .int .i64 D.n, .slice q.sa q.sn q.sc, .slice q.la q.ln q.lc, .slice q.ta q.tn q.tc, .slice q.pa q.pn q.pq, .int .i64 (D.steps : Int)] 42)).alloc (.cells #[.bool S.ideal, .slice d.ba d.bn d.bc, .slice d.ca d.cn d.cc, .int .u64 (S.count : Int), .bool S.reused, .bool S.forged] 54)).alloc (.cells #[.int .i64 0, .int .i64 0, .bool false, .bool false, .int .i64 0, .slice none 0 0, .slice none 0 0, .slice none 0 0, .slice none 0 0, .int .i64 0] 42)) (w.heap.size + 2) z40 42) := by
    have := Blk.new ((w.alloc (.cells #[.int .i64 (D.p.steps : Int), .int .i64 D.p.fuse, .bool D.p.done, .bool D.p.down, .int .i64 D.n, .slice q.sa q.sn q.sc, .slice q.la q.ln q.lc, .slice q.ta q.tn q.tc, .slice q.pa q.pn q.pq, .int .i64 (D.steps : Int)] 42)).alloc (.cells #[.bool S.ideal, .slice d.ba d.bn d.bc, .slice d.ca d.cn d.cc, .int .u64 (S.count : Int), .bool S.reused, .bool S.forged] 54)) #[.int .i64 0, .int .i64 0, .bool false, .bool false, .int .i64 0, .slice none 0 0, .slice none 0 0, .slice none 0 0, .slice none 0 0, .int .i64 0] 42
    rwa [size2] at this
  have QW : Hid (Below w.heap.size w (((w.alloc (.cells #[.int .i64 (D.p.steps : Int), .int .i64 D.p.fuse, .bool D.p.done, .bool D.p.down, .int .i64 D.n, .slice q.sa q.sn q.sc, .slice q.la q.ln q.lc, .slice q.ta q.tn q.tc, .slice q.pa q.pn q.pq, .int .i64 (D.steps : Int)] 42)).alloc (.cells #[.bool S.ideal, .slice d.ba d.bn d.bc, .slice d.ca d.cn d.cc, .int .u64 (S.count : Int), .bool S.reused, .bool S.forged] 54)).alloc (.cells #[.int .i64 0, .int .i64 0, .bool false, .bool false, .int .i64 0, .slice none 0 0, .slice none 0 0, .slice none 0 0, .slice none 0 0, .int .i64 0] 42))) := below3 w _ _ _
  show Calls Tryz.prog _ #[.agg #[.int .i64 (D.p.steps : Int), .int .i64 D.p.fuse, .bool D.p.done, .bool D.p.down, .int .i64 D.n, .slice q.sa q.sn q.sc, .slice q.la q.ln q.lc, .slice q.ta q.tn q.tc, .slice q.pa q.pn q.pq, .int .i64 (D.steps : Int)], .agg #[.bool S.ideal, .slice d.ba d.bn d.bc, .slice d.ca d.cn d.cc, .int .u64 (S.count : Int), .bool S.reused, .bool S.forged], _, _, _] w _
  go_enter Tryz.func25, Tryz.ntmps25
  go_upto_region 1 with fail
  obtain ⟨xd, hxd⟩ : ∃ x, x = w.heap.size := ⟨_, rfl⟩
  obtain ⟨xs, hxs⟩ : ∃ x, x = w.heap.size + 1 := ⟨_, rfl⟩
  obtain ⟨xR, hxR⟩ : ∃ x, x = w.heap.size + 2 := ⟨_, rfl⟩
  first | rw [show w.heap.size + 1 + 1 = w.heap.size + 2 from rfl] | skip
  rw [← hxd] at BD0
  rw [← hxs] at BS0
  rw [← hxR] at BR0
  rw [← hxR, ← hxs, ← hxd]
  have HX : Hid (xd = w.heap.size ∧ xs = w.heap.size + 1 ∧ xR = w.heap.size + 2) := ⟨hxd, hxs, hxR⟩
  clear hxd hxs hxR
  generalize ((w.alloc (.cells #[.int .i64 (D.p.steps : Int), .int .i64 D.p.fuse, .bool D.p.done, .bool D.p.down, .int .i64 D.n, .slice q.sa q.sn q.sc, .slice q.la q.ln q.lc, .slice q.ta q.tn q.tc, .slice q.pa q.pn q.pq, .int .i64 (D.steps : Int)] 42)).alloc (.cells #[.bool S.ideal, .slice d.ba d.bn d.bc, .slice d.ca d.cn d.cc, .int .u64 (S.count : Int), .bool S.reused, .bool S.forged] 54)).alloc (.cells #[.int .i64 0, .int .i64 0, .bool false, .bool false, .int .i64 0, .slice none 0 0, .slice none 0 0, .slice none 0 0, .slice none 0 0, .int .i64 0] 42) = w1 at *
  obtain ⟨A1, hA1⟩ : ∃ A1, A1 = Off A xR := ⟨_, rfl⟩
  have HB1 : Hid (∀ j, A1 j → A j ∧ j ≠ xR) := fun j hj => by rw [hA1] at hj; exact hj
  have HM1 : Hid (∀ j, A j → j ≠ xR → A1 j) := fun j h1 h2 => by rw [hA1]; exact ⟨h1, h2⟩
  have HO1 : Hid (∀ j, j < w.heap.size → A j → A1 j) := fun j hj ha => HM1.out j ha (by have := HX.out; omega)
  have HN0 : Hid (∀ j, w1.heap.size ≤ j → A1 j) := fun j hj => HM1.out j (HAA.out j (Nat.le_trans QW.out.size hj)) (by have := BR0.out.lt; omega)
  have RD0 : Hid (RD A1 w1 D q) := (HR.out.mono HO1.out).below QW.out
  clear hA1 HR
  by_cases hbad : badR e n
  · have HP2 : Hid (P = RedR A (D, [], 1) w) := by
      show P = _
      rw [HP.out]
      unfold redD
      rw [if_pos hbad]
    clear HP
    by_cases h1 : e < 0
    · clear hbad
      go_wp2_with (first | ((with_reducible refine at_ld 42 ?_); (refine ld 42 (.tmp 5) 10 sizeDk _ Tryz.underlying42 rfl xd 0 (dc D q) rfl BD0.out.whole rfl ?_)) | ((with_reducible refine at_st 42 ?_); (refine st' 42 (.tmp 10) (.tmp 34) 10 sizeDk xR 0 (dc D q) rfl (dc_one _ _) (BR0.out.there 0 10 (by simp [z40])) rfl rfl ?_); intro w9 hw8; have Y9 : Hid (Blk w9 xR (dc D q) 42) := (by rw [hw8]; exact BR0.out.setsW _ rfl); have K9 : Hid (Kp (fun j => j = xR) w1 w9) := (by rw [hw8]; exact Kp.sets w1 xR _ 0); clear hw8))
      refine bodyPost_ret (v := .tuple #[dv D q, .slice none 0 0, .int .i64 1]) (resCTT12 Tryz.results25 _ _ xR (dc D q).toArray rfl (run_loadVar_row w9 xR 42 42 (dc D q).toArray (0, 0) _ Y9.out Tryz.underlying42 rfl sizeDk) _ _ rfl rfl) rfl ?_
      rw [HP2.out]
      exact ⟨q, _, _, _, rfl, (RD0.out.kp K9.out fun i hi e => (HB1.out i hi).2 e).mono fun i _ hi => (HB1.out i hi).1, Sl.nil _ _ _ _, Kp.new QW.out K9.out fun i e => by have := HX.out; omega⟩
    · by_cases h2 : n < 0
      · clear hbad
        go_wp2_with (first | ((with_reducible refine at_ld 42 ?_); (refine ld 42 (.tmp 5) 10 sizeDk _ Tryz.underlying42 rfl xd 0 (dc D q) rfl BD0.out.whole rfl ?_)) | ((with_reducible refine at_st 42 ?_); (refine st' 42 (.tmp 10) (.tmp 34) 10 sizeDk xR 0 (dc D q) rfl (dc_one _ _) (BR0.out.there 0 10 (by simp [z40])) rfl rfl ?_); intro w9 hw8; have Y9 : Hid (Blk w9 xR (dc D q) 42) := (by rw [hw8]; exact BR0.out.setsW _ rfl); have K9 : Hid (Kp (fun j => j = xR) w1 w9) := (by rw [hw8]; exact Kp.sets w1 xR _ 0); clear hw8))
        refine bodyPost_ret (v := .tuple #[dv D q, .slice none 0 0, .int .i64 1]) (resCTT12 Tryz.results25 _ _ xR (dc D q).toArray rfl (run_loadVar_row w9 xR 42 42 (dc D q).toArray (0, 0) _ Y9.out Tryz.underlying42 rfl sizeDk) _ _ rfl rfl) rfl ?_
        rw [HP2.out]
        exact ⟨q, _, _, _, rfl, (RD0.out.kp K9.out fun i hi e => (HB1.out i hi).2 e).mono fun i _ hi => (HB1.out i hi).1, Sl.nil _ _ _ _, Kp.new QW.out K9.out fun i e => by have := HX.out; omega⟩
      · have h3 : 23 < n := by unfold badR at hbad; omega
        clear hbad
        go_wp2_with (first | ((with_reducible refine at_ld 42 ?_); (refine ld 42 (.tmp 5) 10 sizeDk _ Tryz.underlying42 rfl xd 0 (dc D q) rfl BD0.out.whole rfl ?_)) | ((with_reducible refine at_st 42 ?_); (refine st' 42 (.tmp 10) (.tmp 34) 10 sizeDk xR 0 (dc D q) rfl (dc_one _ _) (BR0.out.there 0 10 (by simp [z40])) rfl rfl ?_); intro w9 hw8; have Y9 : Hid (Blk w9 xR (dc D q) 42) := (by rw [hw8]; exact BR0.out.setsW _ rfl); have K9 : Hid (Kp (fun j => j = xR) w1 w9) := (by rw [hw8]; exact Kp.sets w1 xR _ 0); clear hw8))
        refine bodyPost_ret (v := .tuple #[dv D q, .slice none 0 0, .int .i64 1]) (resCTT12 Tryz.results25 _ _ xR (dc D q).toArray rfl (run_loadVar_row w9 xR 42 42 (dc D q).toArray (0, 0) _ Y9.out Tryz.underlying42 rfl sizeDk) _ _ rfl rfl) rfl ?_
        rw [HP2.out]
        exact ⟨q, _, _, _, rfl, (RD0.out.kp K9.out fun i hi e => (HB1.out i hi).2 e).mono fun i _ hi => (HB1.out i hi).1, Sl.nil _ _ _ _, Kp.new QW.out K9.out fun i e => by have := HX.out; omega⟩
  · have hg : 0 ≤ e ∧ 0 ≤ n ∧ n ≤ 23 := by unfold badR at hbad; omega
    obtain ⟨E, rfl⟩ : ∃ E : Nat, e = (E : Int) := ⟨e.toNat, by omega⟩
    obtain ⟨N, rfl⟩ : ∃ N : Nat, n = (N : Int) := ⟨n.toNat, by omega⟩
    have hN : N ≤ 23 := by omega
    have hE : E ≤ 1099511627776 := by omega
    have hwE : IntKind.u64.wrap (E : Int) = (E : Int) := by rw [IntKind.wrap_u64]; omega
    have i1 : ¬ (E : Int) < 0 := by omega
    have i2 : ¬ (N : Int) < 0 := by omega
    have i3 : ¬ (23 : Int) < (N : Int) := by omega
    have HP1 : Hid (P = RedR A (if (D.read 0).2.2 = 0 then (match S.opens k (nonR E) (besR E) ((D.read 0).2.1.take (18 + 2 * N)) with | none => ((D.read 0).1, [], 6) | some t => if getN (t.take 2) = N then readD (D.read 0).1 1 [] (pagL t N) else ((D.read 0).1, [], 6)) else ((D.read 0).1, [], (D.read 0).2.2)) w) := by
      show P = _
      rw [HP.out]
      unfold redD opnR
      rw [if_neg hbad, Int.toNat_natCast, Int.toNat_natCast]
      rfl
    have F1 : Hid ((D.read 0).1.fit (mm + 3)) := HF.out.a_read 0
    clear HP hbad hg he n1 n2
    obtain ⟨z, hz⟩ : ∃ z, z = (D.read 0).2.2 := ⟨_, rfl⟩
    obtain ⟨D1, hD1⟩ : ∃ D1, D1 = (D.read 0).1 := ⟨_, rfl⟩
    obtain ⟨bl, hbl⟩ : ∃ bl, bl = (D.read 0).2.1 := ⟨_, rfl⟩
    have CR : Hid (Calls Tryz.prog 62 #[dv D q, .int .i64 0] w1 fun e w' => ∃ q' p m c, e = .returned (.tuple #[dv D1 q', .slice p m c, .int .i64 z]) ∧ RD A1 w' D1 q' ∧ B5 A1 w' p m c bl ∧ Below w1.heap.size w1 w') := by
      show Calls _ _ _ _ _
      rw [hz, hD1, hbl]
      exact rRead w1 RD0.out HN0.out HF.out (by omega) 0 (by constructor <;> omega)
    rw [← hz, ← hD1, ← hbl] at HP1
    rw [← hD1] at F1
    rw [← hz, ← hbl] at HRL
    clear hz hD1 hbl HF
    go_upto_region 3 with fail
    go_wp2_with ((with_reducible refine at_ld 42 ?_); (refine ld 42 (.tmp 5) 10 sizeDk _ Tryz.underlying42 rfl xd 0 (dc D q) rfl BD0.out.whole rfl ?_))
    refine CR.out.mono ?_
    rintro x w2 ⟨q1, p, m, q4, rfl, r2, b2, hb2⟩
    have R2 : Hid (RD A1 w2 D1 q1) := r2
    have X2 : Hid (B5 A1 w2 p m q4 bl) := b2
    have BR2 : Hid (Blk w2 xR z40 42) := BR0.out.below hb2 BR0.out.lt
    have BS2 : Hid (Blk w2 xs (rsC S d) 54) := BS0.out.below hb2 BS0.out.lt
    have Q2 : Hid (Below w.heap.size w w2) := QW.out.trans (hb2.mono QW.out.size)
    clear r2 b2 hb2 BR0 BS0 BD0 RD0 HN0 CR QW
    have z7 : Blk (w2.alloc (.cells #[.int .i64 0, .int .i64 0, .bool false, .bool false, .int .i64 0, .slice none 0 0, .slice none 0 0, .slice none 0 0, .slice none 0 0, .int .i64 0] 42)) w2.heap.size z40 42 := Blk.newAt w2 _ _ w2.heap.size rfl _ rfl
    have k7 : Below w2.heap.size w2 (w2.alloc (.cells #[.int .i64 0, .int .i64 0, .bool false, .bool false, .int .i64 0, .slice none 0 0, .slice none 0 0, .slice none 0 0, .slice none 0 0, .int .i64 0] 42)) := below_alloc _ _
    go_upto_region 4 with ((with_reducible refine at_st 42 ?_); (refine st' 42 (.tmp 13) (.tmp 38) 10 sizeDk w2.heap.size 0 (dc D1 q1) rfl (dc_one _ _) (z7.there 0 10 (by simp [z40])) rfl rfl ?_); intro wr hw8; have X8 : Hid (Blk wr w2.heap.size (dc D1 q1) 42) := (by rw [hw8]; exact z7.setsW _ rfl); have K8 : Hid (Below w2.heap.size w2 wr) := (by rw [hw8]; exact below_sets (Nat.le_refl _) _ k7 0); clear hw8)
    clear z7 k7
    obtain ⟨xX, hxX⟩ : ∃ x, x = w2.heap.size := ⟨_, rfl⟩
    have R1 : Hid (RD A1 wr D1 q1) := R2.out.below K8.out
    have R1' : Hid (RD (Off A1 xX) wr D1 q1) := (RD.off R2.out (by omega)).below K8.out
    have X1 : Hid (B5 A1 wr p m q4 bl) := X2.out.below K8.out
    have BR1 : Hid (Blk wr xR z40 42) := BR2.out.below K8.out BR2.out.lt
    have BS1 : Hid (Blk wr xs (rsC S d) 54) := BS2.out.below K8.out BS2.out.lt
    have Q1 : Hid (Below w.heap.size w wr) := Q2.out.trans (K8.out.mono Q2.out.size)
    have HXX : Hid (xX ≠ xR ∧ w.heap.size ≤ xX) := ⟨by have := BR2.out.lt; omega, by have := Q2.out.size; omega⟩
    rw [← hxX] at X8 ⊢
    clear hxX R2 X2 BR2 BS2 Q2 K8
    by_cases z0 : z = 0
    · subst z0
      have HP2 : Hid (P = RedR A (match S.opens k (nonR E) (besR E) (bl.take (18 + 2 * N)) with | none => (D1, [], 6) | some t => if getN (t.take 2) = N then readD D1 1 [] (pagL t N) else (D1, [], 6)) w) := by show P = _; rw [HP1.out, if_pos rfl]
      have lm : m = 512 := by rw [← X1.out.1.len]; exact HRL.out rfl
      subst lm
      clear HP1 HRL
      obtain ⟨KK, hKK⟩ : ∃ KK : Nat, KK = 18 + 2 * N := ⟨_, rfl⟩
      obtain ⟨TT, hTT⟩ : ∃ TT : Nat, TT = 2 * N := ⟨_, rfl⟩
      have hK5 : KK ≤ 512 := by omega
      have hT5 : TT ≤ 512 := by omega
      have hw1 : IntKind.i64.wrap (2 * (N : Int)) = (TT : Int) := by rw [IntKind.wrap_i64]; omega
      have hw2 : IntKind.i64.wrap (18 + (TT : Int)) = (KK : Int) := by rw [IntKind.wrap_i64]; omega
      have HT : Hid (∀ t, S.opens k (nonR E) (besR E) (bl.take KK) = some t → t.length = 2 + 2 * N) := fun t ht => by
        have h1 := HOK.out.opens_length HKL.out (nonR_length E) ht
        rw [List.length_take, X1.out.1.len] at h1
        omega
      rw [← hKK] at HP2
      obtain ⟨s1, s2⟩ := X1.out.1.cutHigh KK hK5
      have S2X : Hid (∀ u, Bs u p 512 q4 bl → Bs u p KK q4 (bl.take KK)) := s2
      obtain ⟨A3, hA3⟩ : ∃ A3, A3 = Off A1 xX := ⟨_, rfl⟩
      have HB3 : Hid (∀ j, A3 j → A1 j ∧ j ≠ xX) := fun j hj => by rw [hA3] at hj; exact hj
      have HO3 : ∀ j, j < w.heap.size → A j → A3 j := fun j hj ha => by rw [hA3]; exact ⟨HO1.out j hj ha, by have := HXX.out; omega⟩
      have K1 : Hid (BA A3 wr ak 32 ck k) := (HK.out.mono HO3).below' Q1.out
      have RS1 : Hid (RS A3 wr S d) := (HRS.out.mono HO3).grow Q1.out
      have HN1 : Hid (∀ j, wr.heap.size ≤ j → A3 j) := fun j hj => by rw [hA3]; exact ⟨HM1.out j (HAA.out j (Nat.le_trans Q1.out.size hj)) (by have := BR1.out.lt; omega), by have := X8.out.lt; omega⟩
      rw [← hA3] at R1'
      clear hA3 HO3
      clear hKK hTT s2 HK HRS
      go_upto_region 6 with fail
      go_cut [16, 17, 18] from 45 to 61 (fun pv bv cv wx => ∃ (g : Nat) (ta : Option Addr) (tn tc : Nat), pv = .pointer (some ⟨g, 0, none⟩) ∧ bv = .slice ta tn tc ∧ cv = .int .i64 (if (S.opens k (nonR E) (besR E) (bl.take KK)).isSome then 0 else 6) ∧ Hid (MidO A3 wr wx ta tn tc (S.opens k (nonR E) (besR E) (bl.take KK))))
      case first =>
        refine regionG (S := Grows wr) (by kernel_rfl) (Below.refl _ wr).drew ?_
        refine takeG 0 (some 46) (rsV S d) rfl rfl (by kernel_rfl) (by kernel_rfl) (by kernel_rfl) (fun _ _ _ h => h) (ans_row 54 (.tmp 6) _ 6 rfl (by rfl) xs 0 rfl (rsC S d) (fun u h => (BS1.out.below h BS1.out.lt).whole) Tryz.underlying54 rfl rfl sizeRS) ?_
        simp only [Act.put, List.setIfInBounds_toArray, List.set_cons_zero, List.set_cons_succ]
        refine takeG 1 (some 47) (.slice ak 32 ck) rfl rfl (by kernel_rfl) (by kernel_rfl) (by kernel_rfl) (fun _ _ _ h => h) (ans_plain (by rfl) (fun w _ => rfl)) ?_
        simp only [Act.put, List.setIfInBounds_toArray, List.set_cons_zero, List.set_cons_succ]
        refine takeG 2 (some 48) (.int .i64 (E : Int)) rfl rfl (by kernel_rfl) (by kernel_rfl) (by kernel_rfl) (fun _ _ _ h => h) (ans_plain (by rfl) (fun w _ => rfl)) ?_
        simp only [Act.put, List.setIfInBounds_toArray, List.set_cons_zero, List.set_cons_succ]
        refine takeG 3 (some 49) (.int .u64 (E : Int)) rfl rfl (by kernel_rfl) (by kernel_rfl) (by kernel_rfl) (fun _ _ _ h => h) (ans_plain (by rfl) (fun w _ => by unfold execOp; go_simp)) ?_
        simp only [Act.put, List.setIfInBounds_toArray, List.set_cons_zero, List.set_cons_succ]
        refine takeG 5 (some 51) (.int .i64 (E : Int)) rfl rfl (by kernel_rfl) (by kernel_rfl) (by kernel_rfl) (fun _ _ _ h => h) (ans_plain (by rfl) (fun w _ => rfl)) ?_
        simp only [Act.put, List.setIfInBounds_toArray, List.set_cons_zero, List.set_cons_succ]
        refine takeG 7 (some 53) (.slice p 512 q4) rfl rfl (by kernel_rfl) (by kernel_rfl) (by kernel_rfl) (fun _ _ _ h => h) (ans_plain (by rfl) (fun w _ => rfl)) ?_
        simp only [Act.put, List.setIfInBounds_toArray, List.set_cons_zero, List.set_cons_succ]
        refine takeG 8 (some 54) (.int .i64 (N : Int)) rfl rfl (by kernel_rfl) (by kernel_rfl) (by kernel_rfl) (fun _ _ _ h => h) (ans_plain (by rfl) (fun w _ => rfl)) ?_
        simp only [Act.put, List.setIfInBounds_toArray, List.set_cons_zero, List.set_cons_succ]
        refine takeG 9 (some 55) (.int .i64 (TT : Int)) rfl rfl (by kernel_rfl) (by kernel_rfl) (by kernel_rfl) (fun _ _ _ h => h) (ans_plain (by rfl) (fun w _ => by unfold execOp; go_simp)) ?_
        simp only [Act.put, List.setIfInBounds_toArray, List.set_cons_zero, List.set_cons_succ]
        refine takeG 10 (some 56) (.int .i64 (KK : Int)) rfl rfl (by kernel_rfl) (by kernel_rfl) (by kernel_rfl) (fun _ _ _ h => h) (ans_plain (by rfl) (fun w _ => by unfold execOp; go_simp)) ?_
        simp only [Act.put, List.setIfInBounds_toArray, List.set_cons_zero, List.set_cons_succ]
        refine takeG 11 (some 57) (.slice p KK q4) rfl rfl (by kernel_rfl) (by kernel_rfl) (by kernel_rfl) (fun _ _ _ h => h) (ans_plain (by rfl) (fun w _ => by unfold execOp; go_simp)) ?_
        simp only [Act.put, List.setIfInBounds_toArray, List.set_cons_zero, List.set_cons_succ]
        refine fork2G 4 17 (by kernel_rfl) (fun v37 hv37 sv37 => ?_) (fun v38 hv38 sv38 => ?_)
        · refine opCallW 4 (some 50) 38 #[.tmp 49, .const (.int .u32 4294967295)] #[52, 75] #[.int .u64 (E : Int), .int .u32 4294967295] rfl rfl rfl (by rfl) (by rfl) Tryz.call38 ?_
          refine (rNonce12 v37 E 4294967295 (by omega) (by omega)).mono ?_
          rintro e v39 ⟨an, mn, cn, rfl, on, hbn⟩
          have lmn : mn = 12 := by rw [← on.toBs.len]; exact nonL_length _ _
          subst lmn
          have Nn : BA A3 v39 _ _ _ _ := on.ba.mono fun i _ hi => HN1.out i (Nat.le_trans (Below.size sv37) hi)
          refine ⟨_, rfl, Grows.trans sv37 hbn, ?_⟩
          simp only [Act.put, List.setIfInBounds_toArray, List.set_cons_zero, List.set_cons_succ]
          refine fork2G 6 17 (by kernel_rfl) (fun v40 hv40 sv40 => ?_) (fun v41 hv41 sv41 => ?_)
          · have Nn := Nn.below' hv40
            refine opCallW 6 (some 52) 39 #[.tmp 51] #[3] #[.int .i64 (E : Int)] rfl rfl rfl (by rfl) (by rfl) Tryz.call39 ?_
            refine (rBes16 v40 E (by omega)).mono ?_
            rintro e v42 ⟨ab, mb, cb, rfl, ob, hbb⟩
            have lmb : mb ≤ 600 := by rw [← ob.toBs.len, besR_length]; omega
            have Bd : BA A3 v42 _ _ _ _ := ob.ba.mono fun i _ hi => HN1.out i (Nat.le_trans (Below.size sv40) hi)
            have Nn := Nn.below' hbb
            refine ⟨_, rfl, Grows.trans sv40 hbb, ?_⟩
            simp only [Act.put, List.setIfInBounds_toArray, List.set_cons_zero, List.set_cons_succ]
            refine fork2G 12 17 (by kernel_rfl) (fun v43 hv43 sv43 => ?_) (fun v44 hv44 sv44 => ?_)
            · have Nn := Nn.below' hv43
              have Bd := Bd.below' hv43
              refine opCallW 12 (some 58) 63 #[.tmp 46, .tmp 47, .tmp 50, .tmp 52, .tmp 57] #[54, 26, 26, 26, 26] #[rsV S d, .slice ak 32 ck, .slice an 12 cn, .slice ab mb cb, .slice p KK q4] rfl rfl rfl (by rfl) (by rfl) Tryz.call63 ?_
              refine (rOpen12 v43 (A := A3) (fun i hi => HN1.out i (Nat.le_trans (Below.size sv43) hi)) (RS1.out.grow sv43) (K1.out.1.below sv43 (Nat.le_refl _)) Nn.1 Bd.1 (S2X.out v43 (X1.out.1.below sv43 (Nat.le_refl _))) (by omega) (by omega) HZ.out).mono ?_
              rintro e v45 ⟨ta, tn, tc, rfl, R2, Z2, hb2⟩
              obtain ⟨S2, hS2⟩ : ∃ S2, S2 = S.opened k (nonR E) (besR E) (bl.take KK) := ⟨_, rfl⟩
              obtain ⟨O, hO⟩ : ∃ O, O = S.opens k (nonR E) (besR E) (bl.take KK) := ⟨_, rfl⟩
              rw [show S.opened k (nonL E 4294967295) (besR E) (bl.take KK) = S2 from hS2.symm] at R2 ⊢
              rw [show S.opens k (nonL E 4294967295) (besR E) (bl.take KK) = O from hO.symm] at Z2 ⊢
              obtain ⟨cz, hcz⟩ : ∃ cz : Int, cz = if O.isSome then 0 else 6 := ⟨_, rfl⟩
              rw [← hcz]
              refine ⟨_, rfl, Grows.trans sv43 hb2, ?_⟩
              simp only [Act.put, List.setIfInBounds_toArray, List.set_cons_zero, List.set_cons_succ]
              refine takeG 13 (some 45) (.tuple #[rsV S2 d, .slice ta tn tc, .int .i64 cz]) rfl rfl (by kernel_rfl) (by kernel_rfl) (by kernel_rfl) (fun _ _ _ h => h) (ans_plain (by rfl) (fun w _ => rfl)) ?_
              simp only [Act.put, List.setIfInBounds_toArray, List.set_cons_zero, List.set_cons_succ]
              refine takeG 14 (some 59) (rsV S2 d) rfl rfl (by kernel_rfl) (by kernel_rfl) (by kernel_rfl) (fun _ _ _ h => h) (ans_plain (by rfl) (fun w _ => by unfold execOp; go_simp)) ?_
              simp only [Act.put, List.setIfInBounds_toArray, List.set_cons_zero, List.set_cons_succ]
              refine takeG 15 (some 60) (.slice ta tn tc) rfl rfl (by kernel_rfl) (by kernel_rfl) (by kernel_rfl) (fun _ _ _ h => h) (ans_plain (by rfl) (fun w _ => by unfold execOp; go_simp)) ?_
              simp only [Act.put, List.setIfInBounds_toArray, List.set_cons_zero, List.set_cons_succ]
              refine takeG 16 (some 61) (.int .i64 cz) rfl rfl (by kernel_rfl) (by kernel_rfl) (by kernel_rfl) (fun _ _ _ h => h) (ans_plain (by rfl) (fun w _ => by unfold execOp; go_simp)) ?_
              simp only [Act.put, List.setIfInBounds_toArray, List.set_cons_zero, List.set_cons_succ]
              refine alloc1 (fun _ _ h h2 => Grows.trans h h2) 17 16 ⟨_, rfl, rfl, rfl, fun ρ w => rfl⟩ (by kernel_rfl) fun g v98 hg98 sv98 Bg hgx => ?_
              have Z2 := (Z2.off hgx).below' hg98
              have hgw : wr.heap.size ≤ g := Nat.le_trans (Below.size (Grows.trans sv43 hb2)) hgx
              simp only [Act.put, List.setIfInBounds_toArray, List.set_cons_zero, List.set_cons_succ]
              refine oneG 18 (by kernel_rfl) fun v96 hg96 sv96 => ?_
              have Z2 := Z2.below' hg96
              have Bg := Bg.below hg96 Bg.lt
              refine opStR 18 54 (.tmp 16) (.tmp 59) 6 rfl rfl rfl rfl g _ (rsC S2 d) 54 Bg rfl rfl (rsC_one _ _) sizeRS rfl rfl fun v97 b9 k9 => ?_
              have hs9 : Grows wr v97 := Below.trans sv96 (k9.below (B := wr.heap.size) (Below.size sv96) (fun i hi e => by omega))
              have Z2 := Z2.kp k9 fun i hi e => hi.2 e
              refine ⟨hs9, ?_⟩
              refine takeG 19 (some 17) (.slice ta tn tc) rfl rfl (by kernel_rfl) (by kernel_rfl) (by kernel_rfl) (fun _ _ _ h => h) (ans_plain (by rfl) (fun w _ => rfl)) ?_
              simp only [Act.put, List.setIfInBounds_toArray, List.set_cons_zero, List.set_cons_succ]
              refine takeG 20 (some 18) (.int .i64 cz) rfl rfl (by kernel_rfl) (by kernel_rfl) (by kernel_rfl) (fun _ _ _ h => h) (ans_plain (by rfl) (fun w _ => rfl)) ?_
              simp only [Act.put, List.setIfInBounds_toArray, List.set_cons_zero, List.set_cons_succ]
              refine doneG (by kernel_rfl) fun v95 hgz hsz => ?_
              have M9 : Hid (MidO A3 wr v95 ta tn tc (S.opens k (nonR E) (besR E) (bl.take KK))) := by rw [← hO]; exact ⟨(Z2.mono' fun i _ hi => hi.1).below' hgz, hsz⟩
              rw [hO] at hcz
              clear R2 Z2 b9 k9 hs9 hgz hsz
              go_wp2_with fail
              go_meet
              case rel => exact ⟨g, ta, tn, tc, rfl, rfl, by rw [hcz], M9⟩
            · have Nn := Nn.below' hv44
              have Bd := Bd.below' hv44
              refine opMake (fun _ _ h h2 => Grows.trans h h2) ⟨_, rfl, rfl, rfl, fun ρ w => rfl⟩ sv44 fun g v46 hv46 sv46 Bg hgx => ?_
              have Nn := Nn.off hgx
              have Bd := Bd.off hgx
              have Nn := Nn.below' hv46
              have Bd := Bd.below' hv46
              have hgw : wr.heap.size ≤ g := Nat.le_trans (Below.size sv44) hgx
              simp only [Act.put, List.setIfInBounds_toArray, List.set_cons_zero, List.set_cons_succ]
              refine callG 12 (some 58) 63 #[.tmp 46, .tmp 47, .tmp 50, .tmp 52, .tmp 57] #[54, 26, 26, 26, 26] #[rsV S d, .slice ak 32 ck, .slice an 12 cn, .slice ab mb cb, .slice p KK q4] rfl rfl rfl (by rfl) (by rfl) (by kernel_rfl) Tryz.call63 fun v47 hv47 sv47 => ?_
              have Nn := Nn.below' hv47
              have Bd := Bd.below' hv47
              have Bg := Bg.below hv47 Bg.lt
              refine (rOpen12 v47 (A := (Off A3 g)) (fun i hi => ⟨HN1.out i (Nat.le_trans (Below.size sv47) hi), by have := Bg.lt; omega⟩) ((RS1.out.off hgw).grow sv47) (K1.out.1.below sv47 (Nat.le_refl _)) Nn.1 Bd.1 (S2X.out v47 (X1.out.1.below sv47 (Nat.le_refl _))) (by omega) (by omega) HZ.out).mono ?_
              rintro e v48 ⟨ta, tn, tc, rfl, R2, Z2, hb2⟩
              obtain ⟨S2, hS2⟩ : ∃ S2, S2 = S.opened k (nonR E) (besR E) (bl.take KK) := ⟨_, rfl⟩
              obtain ⟨O, hO⟩ : ∃ O, O = S.opens k (nonR E) (besR E) (bl.take KK) := ⟨_, rfl⟩
              rw [show S.opened k (nonL E 4294967295) (besR E) (bl.take KK) = S2 from hS2.symm] at R2 ⊢
              rw [show S.opens k (nonL E 4294967295) (besR E) (bl.take KK) = O from hO.symm] at Z2 ⊢
              obtain ⟨cz, hcz⟩ : ∃ cz : Int, cz = if O.isSome then 0 else 6 := ⟨_, rfl⟩
              rw [← hcz]
              have Bg := Bg.below hb2 Bg.lt
              refine ⟨_, rfl, Grows.trans sv47 hb2, ?_⟩
              simp only [Act.put, List.setIfInBounds_toArray, List.set_cons_zero, List.set_cons_succ]
              refine takeG 13 (some 45) (.tuple #[rsV S2 d, .slice ta tn tc, .int .i64 cz]) rfl rfl (by kernel_rfl) (by kernel_rfl) (by kernel_rfl) (fun _ _ _ h => h) (ans_plain (by rfl) (fun w _ => rfl)) ?_
              simp only [Act.put, List.setIfInBounds_toArray, List.set_cons_zero, List.set_cons_succ]
              refine takeG 14 (some 59) (rsV S2 d) rfl rfl (by kernel_rfl) (by kernel_rfl) (by kernel_rfl) (fun _ _ _ h => h) (ans_plain (by rfl) (fun w _ => by unfold execOp; go_simp)) ?_
              simp only [Act.put, List.setIfInBounds_toArray, List.set_cons_zero, List.set_cons_succ]
              refine takeG 15 (some 60) (.slice ta tn tc) rfl rfl (by kernel_rfl) (by kernel_rfl) (by kernel_rfl) (fun _ _ _ h => h) (ans_plain (by rfl) (fun w _ => by unfold execOp; go_simp)) ?_
              simp only [Act.put, List.setIfInBounds_toArray, List.set_cons_zero, List.set_cons_succ]
              refine takeG 16 (some 61) (.int .i64 cz) rfl rfl (by kernel_rfl) (by kernel_rfl) (by kernel_rfl) (fun _ _ _ h => h) (ans_plain (by rfl) (fun w _ => by unfold execOp; go_simp)) ?_
              simp only [Act.put, List.setIfInBounds_toArray, List.set_cons_zero, List.set_cons_succ]
              refine oneG 18 (by kernel_rfl) fun v96 hg96 sv96 => ?_
              have Z2 := Z2.below' hg96
              have Bg := Bg.below hg96 Bg.lt
              refine opStR 18 54 (.tmp 16) (.tmp 59) 6 rfl rfl rfl rfl g _ (rsC S2 d) 54 Bg rfl rfl (rsC_one _ _) sizeRS rfl rfl fun v97 b9 k9 => ?_
              have hs9 : Grows wr v97 := Below.trans sv96 (k9.below (B := wr.heap.size) (Below.size sv96) (fun i hi e => by omega))
              have Z2 := Z2.kp k9 fun i hi e => hi.2 e
              refine ⟨hs9, ?_⟩
              refine takeG 19 (some 17) (.slice ta tn tc) rfl rfl (by kernel_rfl) (by kernel_rfl) (by kernel_rfl) (fun _ _ _ h => h) (ans_plain (by rfl) (fun w _ => rfl)) ?_
              simp only [Act.put, List.setIfInBounds_toArray, List.set_cons_zero, List.set_cons_succ]
              refine takeG 20 (some 18) (.int .i64 cz) rfl rfl (by kernel_rfl) (by kernel_rfl) (by kernel_rfl) (fun _ _ _ h => h) (ans_plain (by rfl) (fun w _ => rfl)) ?_
              simp only [Act.put, List.setIfInBounds_toArray, List.set_cons_zero, List.set_cons_succ]
              refine doneG (by kernel_rfl) fun v95 hgz hsz => ?_
              have M9 : Hid (MidO A3 wr v95 ta tn tc (S.opens k (nonR E) (besR E) (bl.take KK))) := by rw [← hO]; exact ⟨(Z2.mono' fun i _ hi => hi.1).below' hgz, hsz⟩
              rw [hO] at hcz
              clear R2 Z2 b9 k9 hs9 hgz hsz
              go_wp2_with fail
              go_meet
              case rel => exact ⟨g, ta, tn, tc, rfl, rfl, by rw [hcz], M9⟩
          · have Nn := Nn.below' hv41
            refine opMake (fun _ _ h h2 => Grows.trans h h2) ⟨_, rfl, rfl, rfl, fun ρ w => rfl⟩ sv41 fun g v49 hv49 sv49 Bg hgx => ?_
            have Nn := Nn.off hgx
            have Nn := Nn.below' hv49
            have hgw : wr.heap.size ≤ g := Nat.le_trans (Below.size sv41) hgx
            simp only [Act.put, List.setIfInBounds_toArray, List.set_cons_zero, List.set_cons_succ]
            refine callG 6 (some 52) 39 #[.tmp 51] #[3] #[.int .i64 (E : Int)] rfl rfl rfl (by rfl) (by rfl) (by kernel_rfl) Tryz.call39 fun v50 hv50 sv50 => ?_
            have Nn := Nn.below' hv50
            have Bg := Bg.below hv50 Bg.lt
            refine (rBes16 v50 E (by omega)).mono ?_
            rintro e v51 ⟨ab, mb, cb, rfl, ob, hbb⟩
            have lmb : mb ≤ 600 := by rw [← ob.toBs.len, besR_length]; omega
            have Bd : BA (Off A3 g) v51 _ _ _ _ := ob.ba.mono fun i _ hi => ⟨HN1.out i (Nat.le_trans (Below.size sv50) hi), by have := Bg.lt; omega⟩
            have Nn := Nn.below' hbb
            have Bg := Bg.below hbb Bg.lt
            refine ⟨_, rfl, Grows.trans sv50 hbb, ?_⟩
            simp only [Act.put, List.setIfInBounds_toArray, List.set_cons_zero, List.set_cons_succ]
            refine callG 12 (some 58) 63 #[.tmp 46, .tmp 47, .tmp 50, .tmp 52, .tmp 57] #[54, 26, 26, 26, 26] #[rsV S d, .slice ak 32 ck, .slice an 12 cn, .slice ab mb cb, .slice p KK q4] rfl rfl rfl (by rfl) (by rfl) (by kernel_rfl) Tryz.call63 fun v52 hv52 sv52 => ?_
            have Nn := Nn.below' hv52
            have Bd := Bd.below' hv52
            have Bg := Bg.below hv52 Bg.lt
            refine (rOpen12 v52 (A := (Off A3 g)) (fun i hi => ⟨HN1.out i (Nat.le_trans (Below.size sv52) hi), by have := Bg.lt; omega⟩) ((RS1.out.off hgw).grow sv52) (K1.out.1.below sv52 (Nat.le_refl _)) Nn.1 Bd.1 (S2X.out v52 (X1.out.1.below sv52 (Nat.le_refl _))) (by omega) (by omega) HZ.out).mono ?_
            rintro e v53 ⟨ta, tn, tc, rfl, R2, Z2, hb2⟩
            obtain ⟨S2, hS2⟩ : ∃ S2, S2 = S.opened k (nonR E) (besR E) (bl.take KK) := ⟨_, rfl⟩
            obtain ⟨O, hO⟩ : ∃ O, O = S.opens k (nonR E) (besR E) (bl.take KK) := ⟨_, rfl⟩
            rw [show S.opened k (nonL E 4294967295) (besR E) (bl.take KK) = S2 from hS2.symm] at R2 ⊢
            rw [show S.opens k (nonL E 4294967295) (besR E) (bl.take KK) = O from hO.symm] at Z2 ⊢
            obtain ⟨cz, hcz⟩ : ∃ cz : Int, cz = if O.isSome then 0 else 6 := ⟨_, rfl⟩
            rw [← hcz]
            have Bg := Bg.below hb2 Bg.lt
            refine ⟨_, rfl, Grows.trans sv52 hb2, ?_⟩
            simp only [Act.put, List.setIfInBounds_toArray, List.set_cons_zero, List.set_cons_succ]
            refine takeG 13 (some 45) (.tuple #[rsV S2 d, .slice ta tn tc, .int .i64 cz]) rfl rfl (by kernel_rfl) (by kernel_rfl) (by kernel_rfl) (fun _ _ _ h => h) (ans_plain (by rfl) (fun w _ => rfl)) ?_
            simp only [Act.put, List.setIfInBounds_toArray, List.set_cons_zero, List.set_cons_succ]
            refine takeG 14 (some 59) (rsV S2 d) rfl rfl (by kernel_rfl) (by kernel_rfl) (by kernel_rfl) (fun _ _ _ h => h) (ans_plain (by rfl) (fun w _ => by unfold execOp; go_simp)) ?_
            simp only [Act.put, List.setIfInBounds_toArray, List.set_cons_zero, List.set_cons_succ]
            refine takeG 15 (some 60) (.slice ta tn tc) rfl rfl (by kernel_rfl) (by kernel_rfl) (by kernel_rfl) (fun _ _ _ h => h) (ans_plain (by rfl) (fun w _ => by unfold execOp; go_simp)) ?_
            simp only [Act.put, List.setIfInBounds_toArray, List.set_cons_zero, List.set_cons_succ]
            refine takeG 16 (some 61) (.int .i64 cz) rfl rfl (by kernel_rfl) (by kernel_rfl) (by kernel_rfl) (fun _ _ _ h => h) (ans_plain (by rfl) (fun w _ => by unfold execOp; go_simp)) ?_
            simp only [Act.put, List.setIfInBounds_toArray, List.set_cons_zero, List.set_cons_succ]
            refine oneG 18 (by kernel_rfl) fun v96 hg96 sv96 => ?_
            have Z2 := Z2.below' hg96
            have Bg := Bg.below hg96 Bg.lt
            refine opStR 18 54 (.tmp 16) (.tmp 59) 6 rfl rfl rfl rfl g _ (rsC S2 d) 54 Bg rfl rfl (rsC_one _ _) sizeRS rfl rfl fun v97 b9 k9 => ?_
            have hs9 : Grows wr v97 := Below.trans sv96 (k9.below (B := wr.heap.size) (Below.size sv96) (fun i hi e => by omega))
            have Z2 := Z2.kp k9 fun i hi e => hi.2 e
            refine ⟨hs9, ?_⟩
            refine takeG 19 (some 17) (.slice ta tn tc) rfl rfl (by kernel_rfl) (by kernel_rfl) (by kernel_rfl) (fun _ _ _ h => h) (ans_plain (by rfl) (fun w _ => rfl)) ?_
            simp only [Act.put, List.setIfInBounds_toArray, List.set_cons_zero, List.set_cons_succ]
            refine takeG 20 (some 18) (.int .i64 cz) rfl rfl (by kernel_rfl) (by kernel_rfl) (by kernel_rfl) (fun _ _ _ h => h) (ans_plain (by rfl) (fun w _ => rfl)) ?_
            simp only [Act.put, List.setIfInBounds_toArray, List.set_cons_zero, List.set_cons_succ]
            refine doneG (by kernel_rfl) fun v95 hgz hsz => ?_
            have M9 : Hid (MidO A3 wr v95 ta tn tc (S.opens k (nonR E) (besR E) (bl.take KK))) := by rw [← hO]; exact ⟨(Z2.mono' fun i _ hi => hi.1).below' hgz, hsz⟩
            rw [hO] at hcz
            clear R2 Z2 b9 k9 hs9 hgz hsz
            go_wp2_with fail
            go_meet
            case rel => exact ⟨g, ta, tn, tc, rfl, rfl, by rw [hcz], M9⟩
        · refine opMake (fun _ _ h h2 => Grows.trans h h2) ⟨_, rfl, rfl, rfl, fun ρ w => rfl⟩ sv38 fun g v54 hv54 sv54 Bg hgx => ?_
          have hgw : wr.heap.size ≤ g := Nat.le_trans (Below.size sv38) hgx
          simp only [Act.put, List.setIfInBounds_toArray, List.set_cons_zero, List.set_cons_succ]
          refine callG 4 (some 50) 38 #[.tmp 49, .const (.int .u32 4294967295)] #[52, 75] #[.int .u64 (E : Int), .int .u32 4294967295] rfl rfl rfl (by rfl) (by rfl) (by kernel_rfl) Tryz.call38 fun v55 hv55 sv55 => ?_
          have Bg := Bg.below hv55 Bg.lt
          refine (rNonce12 v55 E 4294967295 (by omega) (by omega)).mono ?_
          rintro e v56 ⟨an, mn, cn, rfl, on, hbn⟩
          have lmn : mn = 12 := by rw [← on.toBs.len]; exact nonL_length _ _
          subst lmn
          have Nn : BA (Off A3 g) v56 _ _ _ _ := on.ba.mono fun i _ hi => ⟨HN1.out i (Nat.le_trans (Below.size sv55) hi), by have := Bg.lt; omega⟩
          have Bg := Bg.below hbn Bg.lt
          refine ⟨_, rfl, Grows.trans sv55 hbn, ?_⟩
          simp only [Act.put, List.setIfInBounds_toArray, List.set_cons_zero, List.set_cons_succ]
          refine callG 6 (some 52) 39 #[.tmp 51] #[3] #[.int .i64 (E : Int)] rfl rfl rfl (by rfl) (by rfl) (by kernel_rfl) Tryz.call39 fun v57 hv57 sv57 => ?_
          have Nn := Nn.below' hv57
          have Bg := Bg.below hv57 Bg.lt
          refine (rBes16 v57 E (by omega)).mono ?_
          rintro e v58 ⟨ab, mb, cb, rfl, ob, hbb⟩
          have lmb : mb ≤ 600 := by rw [← ob.toBs.len, besR_length]; omega
          have Bd : BA (Off A3 g) v58 _ _ _ _ := ob.ba.mono fun i _ hi => ⟨HN1.out i (Nat.le_trans (Below.size sv57) hi), by have := Bg.lt; omega⟩
          have Nn := Nn.below' hbb
          have Bg := Bg.below hbb Bg.lt
          refine ⟨_, rfl, Grows.trans sv57 hbb, ?_⟩
          simp only [Act.put, List.setIfInBounds_toArray, List.set_cons_zero, List.set_cons_succ]
          refine callG 12 (some 58) 63 #[.tmp 46, .tmp 47, .tmp 50, .tmp 52, .tmp 57] #[54, 26, 26, 26, 26] #[rsV S d, .slice ak 32 ck, .slice an 12 cn, .slice ab mb cb, .slice p KK q4] rfl rfl rfl (by rfl) (by rfl) (by kernel_rfl) Tryz.call63 fun v59 hv59 sv59 => ?_
          have Nn := Nn.below' hv59
          have Bd := Bd.below' hv59
          have Bg := Bg.below hv59 Bg.lt
          refine (rOpen12 v59 (A := (Off A3 g)) (fun i hi => ⟨HN1.out i (Nat.le_trans (Below.size sv59) hi), by have := Bg.lt; omega⟩) ((RS1.out.off hgw).grow sv59) (K1.out.1.below sv59 (Nat.le_refl _)) Nn.1 Bd.1 (S2X.out v59 (X1.out.1.below sv59 (Nat.le_refl _))) (by omega) (by omega) HZ.out).mono ?_
          rintro e v60 ⟨ta, tn, tc, rfl, R2, Z2, hb2⟩
          obtain ⟨S2, hS2⟩ : ∃ S2, S2 = S.opened k (nonR E) (besR E) (bl.take KK) := ⟨_, rfl⟩
          obtain ⟨O, hO⟩ : ∃ O, O = S.opens k (nonR E) (besR E) (bl.take KK) := ⟨_, rfl⟩
          rw [show S.opened k (nonL E 4294967295) (besR E) (bl.take KK) = S2 from hS2.symm] at R2 ⊢
          rw [show S.opens k (nonL E 4294967295) (besR E) (bl.take KK) = O from hO.symm] at Z2 ⊢
          obtain ⟨cz, hcz⟩ : ∃ cz : Int, cz = if O.isSome then 0 else 6 := ⟨_, rfl⟩
          rw [← hcz]
          have Bg := Bg.below hb2 Bg.lt
          refine ⟨_, rfl, Grows.trans sv59 hb2, ?_⟩
          simp only [Act.put, List.setIfInBounds_toArray, List.set_cons_zero, List.set_cons_succ]
          refine takeG 13 (some 45) (.tuple #[rsV S2 d, .slice ta tn tc, .int .i64 cz]) rfl rfl (by kernel_rfl) (by kernel_rfl) (by kernel_rfl) (fun _ _ _ h => h) (ans_plain (by rfl) (fun w _ => rfl)) ?_
          simp only [Act.put, List.setIfInBounds_toArray, List.set_cons_zero, List.set_cons_succ]
          refine takeG 14 (some 59) (rsV S2 d) rfl rfl (by kernel_rfl) (by kernel_rfl) (by kernel_rfl) (fun _ _ _ h => h) (ans_plain (by rfl) (fun w _ => by unfold execOp; go_simp)) ?_
          simp only [Act.put, List.setIfInBounds_toArray, List.set_cons_zero, List.set_cons_succ]
          refine takeG 15 (some 60) (.slice ta tn tc) rfl rfl (by kernel_rfl) (by kernel_rfl) (by kernel_rfl) (fun _ _ _ h => h) (ans_plain (by rfl) (fun w _ => by unfold execOp; go_simp)) ?_
          simp only [Act.put, List.setIfInBounds_toArray, List.set_cons_zero, List.set_cons_succ]
          refine takeG 16 (some 61) (.int .i64 cz) rfl rfl (by kernel_rfl) (by kernel_rfl) (by kernel_rfl) (fun _ _ _ h => h) (ans_plain (by rfl) (fun w _ => by unfold execOp; go_simp)) ?_
          simp only [Act.put, List.setIfInBounds_toArray, List.set_cons_zero, List.set_cons_succ]
          refine oneG 18 (by kernel_rfl) fun v96 hg96 sv96 => ?_
          have Z2 := Z2.below' hg96
          have Bg := Bg.below hg96 Bg.lt
          refine opStR 18 54 (.tmp 16) (.tmp 59) 6 rfl rfl rfl rfl g _ (rsC S2 d) 54 Bg rfl rfl (rsC_one _ _) sizeRS rfl rfl fun v97 b9 k9 => ?_
          have hs9 : Grows wr v97 := Below.trans sv96 (k9.below (B := wr.heap.size) (Below.size sv96) (fun i hi e => by omega))
          have Z2 := Z2.kp k9 fun i hi e => hi.2 e
          refine ⟨hs9, ?_⟩
          refine takeG 19 (some 17) (.slice ta tn tc) rfl rfl (by kernel_rfl) (by kernel_rfl) (by kernel_rfl) (fun _ _ _ h => h) (ans_plain (by rfl) (fun w _ => rfl)) ?_
          simp only [Act.put, List.setIfInBounds_toArray, List.set_cons_zero, List.set_cons_succ]
          refine takeG 20 (some 18) (.int .i64 cz) rfl rfl (by kernel_rfl) (by kernel_rfl) (by kernel_rfl) (fun _ _ _ h => h) (ans_plain (by rfl) (fun w _ => rfl)) ?_
          simp only [Act.put, List.setIfInBounds_toArray, List.set_cons_zero, List.set_cons_succ]
          refine doneG (by kernel_rfl) fun v95 hgz hsz => ?_
          have M9 : Hid (MidO A3 wr v95 ta tn tc (S.opens k (nonR E) (besR E) (bl.take KK))) := by rw [← hO]; exact ⟨(Z2.mono' fun i _ hi => hi.1).below' hgz, hsz⟩
          rw [hO] at hcz
          clear R2 Z2 b9 k9 hs9 hgz hsz
          go_wp2_with fail
          go_meet
          case rel => exact ⟨g, ta, tn, tc, rfl, rfl, by rw [hcz], M9⟩
      case rest =>
        obtain ⟨g, ta, tn, tc, rfl, rfl, rfl, M9⟩ := hcut
        obtain ⟨O, hO⟩ : ∃ O, O = S.opens k (nonR E) (besR E) (bl.take KK) := ⟨_, rfl⟩
        rw [← hO] at M9 HP2 HT ⊢
        clear hO s1 hw1 hw2
        have XC : Hid (Blk wc xX (dc D1 q1) 42) := X8.out.below M9.out.2 X8.out.lt
        have RC : Hid (RD A1 wc D1 q1) := R1.out.below M9.out.2
        have RC' : Hid (RD A3 wc D1 q1) := R1'.out.below M9.out.2
        have BRC : Hid (Blk wc xR z40 42) := BR1.out.below M9.out.2 BR1.out.lt
        have QC : Hid (Below w.heap.size w wc) := Q1.out.trans (M9.out.2.mono Q1.out.size)
        have HTX : Hid (BA A3 wc ta tn tc (O.getD [])) := M9.out.1
        have HNC : Hid (∀ j, wc.heap.size ≤ j → A3 j) := fun j hj => HN1.out j (Nat.le_trans M9.out.2.size hj)
        clear M9 X8 R1 R1' BR1 BS1 Q1 X1 K1 RS1 HN1
        cases O with
        | none =>
          have HP3 : Hid (P = RedR A (D1, [], 6) w) := HP2.out
          clear HP2 HT
          dsimp only [Option.isSome]
          go_wp2_with (first | ((with_reducible refine at_ld 42 ?_); (refine ld 42 (.tmp 13) 10 sizeDk _ Tryz.underlying42 rfl xX 0 (dc D1 q1) rfl XC.out.whole rfl ?_)) | ((with_reducible refine at_st 42 ?_); (refine st' 42 (.tmp 10) (.tmp 64) 10 sizeDk xR 0 (dc D1 q1) rfl (dc_one _ _) (BRC.out.there 0 10 (by simp [z40])) rfl rfl ?_); intro w9 hw8; have Y9 : Hid (Blk w9 xR (dc D1 q1) 42) := (by rw [hw8]; exact BRC.out.setsW _ rfl); have K9 : Hid (Kp (fun j => j = xR) wc w9) := (by rw [hw8]; exact Kp.sets wc xR _ 0); clear hw8))
          refine bodyPost_ret (v := .tuple #[dv D1 q1, .slice none 0 0, .int .i64 6]) (resCTT12 Tryz.results25 _ _ xR (dc D1 q1).toArray rfl (run_loadVar_row w9 xR 42 42 (dc D1 q1).toArray (0, 0) _ Y9.out Tryz.underlying42 rfl sizeDk) _ _ rfl rfl) rfl ?_
          rw [HP3.out]
          exact ⟨q1, _, _, _, rfl, (RC.out.kp K9.out fun i hi e => (HB1.out i hi).2 e).mono fun i _ hi => (HB1.out i hi).1, Sl.nil _ _ _ _, Kp.new QC.out K9.out fun i e => by have := HX.out; omega⟩
        | some t =>
          have HTL : Hid (t.length = 2 + 2 * N) := HT.out t rfl
          have HTB : Hid (BA A3 wc ta tn tc t) := HTX.out
          have htn : tn = 2 + 2 * N := by rw [← HTB.out.1.len]; exact HTL.out
          have HTN : Hid (tn = 2 + 2 * N) := htn
          have HP3 : Hid (P = RedR A (if getN (t.take 2) = N then readD D1 1 [] (pagL t N) else (D1, [], 6)) w) := HP2.out
          have h2n : 2 ≤ tn := by omega
          obtain ⟨s1, s2⟩ := HTB.out.1.cutHigh 2 h2n
          have s1' : ∀ w, Sem.run Tryz.prog (Instr.slice 26 (.slice ta tn tc) none (some (.int .i64 2)) none) w = .ok (.slice ta 2 tc) w := s1
          have hg2 := getN_two (l := t.take 2) (by rw [List.length_take]; omega)
          have CG : Hid (Calls Tryz.prog 64 #[.slice ta 2 tc] wc fun e w' => e = .returned (.int .u64 (getN (t.take 2) : Nat)) ∧ Below wc.heap.size wc w') := (rGet wc (s2 wc HTB.out.1)).mono (by rintro e w' ⟨rfl, rfl⟩; exact ⟨rfl, Below.refl _ _⟩)
          obtain ⟨G, hG⟩ : ∃ G, G = getN (t.take 2) := ⟨_, rfl⟩
          rw [← hG] at CG HP3 hg2
          clear hG HP2 HT HTX s1 s2 htn
          dsimp only [Option.isSome]
          go_wp2_with fail
          refine CG.out.mono ?_
          rintro x wd ⟨rfl, hbd⟩
          have XD : Hid (Blk wd xX (dc D1 q1) 42) := XC.out.below hbd XC.out.lt
          have RDD : Hid (RD A3 wd D1 q1) := RC'.out.below hbd
          have BRD : Hid (Blk wd xR z40 42) := BRC.out.below hbd BRC.out.lt
          have QD : Hid (Below w.heap.size w wd) := QC.out.trans (hbd.mono QC.out.size)
          have TXD : Hid (BA A3 wd ta tn tc t) := HTB.out.below' hbd
          have HND : Hid (∀ j, wd.heap.size ≤ j → A3 j) := fun j hj => HNC.out j (Nat.le_trans hbd.size hj)
          clear XC RC RC' BRC QC HTB HNC hbd CG s1'
          by_cases hGN : G = N
          · subst hGN
            have HP4 : Hid (P = RedR A (readD D1 1 [] (pagL t G)) w) := by show P = _; rw [HP3.out, if_pos rfl]
            clear HP3
            have I0 : Hid (RrI A3 w wd wd.heap.size xX xR D1 q1 (.slice none 0 0) [] ta tn tc t) := ⟨RDD.out.mono fun j _ hj => ⟨hj, by simp [Value.ownBlock]⟩, XD.out, BRD.out, TXD.out.mono fun j hj ha => ⟨ha, hj⟩, OwS.nil _ _ _ _ _, QD.out, Nat.le_refl _⟩
            have HNB : Hid (xX < wd.heap.size ∧ xR < wd.heap.size) := ⟨XD.out.lt, BRD.out.lt⟩
            clear XD RDD BRD QD TXD
            go_wp2_with fail
            obtain ⟨nb, hnb⟩ : ∃ nb, nb = wd.heap.size := ⟨_, rfl⟩
            rw [← hnb] at I0 HNB HND
            clear hnb
            go_loopw [19, 20] (fun out i wr => ∃ (k' : Nat) (D' : DskS) (q' : Quad) (acc : List Chg) (oa : Option Addr) (on oc : Nat), k' ≤ G ∧ i = .int .i64 (k' : Int) ∧ out = .slice oa on oc ∧ Hid (RrI A3 w wr nb xX xR D' q' (.slice oa on oc) acc ta tn tc t) ∧ Hid (D'.fit (mm + 3 + 3 * k')) ∧ Hid (acc.length = k') ∧ Hid (readD D1 1 [] (pagL t G) = readD D' (k' + 1) acc ((pagL t G).drop k'))) (fun _ i _ => G - (intOf i).toNat)
            case atStart => exact ⟨0, D1, q1, [], none, 0, 0, Nat.zero_le _, rfl, rfl, I0, F1.out.a_mono (by omega), rfl, rfl⟩
            case round =>
              obtain ⟨k', D', q', acc, oa, on, oc, hk', rfl, rfl, I1, F2, HAL, E1⟩ := hrel
              clear I0 F1
              by_cases hlt : k' < G
              · have j0 : (k' : Int) < (G : Int) := by omega
                have HNR : Hid (∀ j, wr.heap.size ≤ j → NoRow A3 (.slice oa on oc) j) := fun j hj => ⟨HND.out j (Nat.le_trans I1.out.le hj), fun e => by have := (I1.out.o.lt j e).2; omega⟩
                have E2 : Hid (readD D1 1 [] (pagL t G) = if (D'.read ((k' : Int) + 1)).2.2 = 0 then readD (D'.read ((k' : Int) + 1)).1 (k' + 2) (acc ++ [((getN ((t.drop (2 + 2 * k')).take 2) : Int), (D'.read ((k' : Int) + 1)).2.1)]) ((pagL t G).drop (k' + 1)) else ((D'.read ((k' : Int) + 1)).1, [], (D'.read ((k' : Int) + 1)).2.2)) := by
                  show _ = _
                  rw [E1.out, pagL_drop t hlt]
                  have ec : ((k' + 1 : Nat) : Int) = (k' : Int) + 1 := by omega
                  rw [← ec]
                  rfl
                have F3 : Hid ((D'.read ((k' : Int) + 1)).1.fit (mm + 3 + 3 * (k' + 1))) := (F2.out.a_read _).a_mono (by omega)
                obtain ⟨z, hz⟩ : ∃ z, z = (D'.read ((k' : Int) + 1)).2.2 := ⟨_, rfl⟩
                obtain ⟨D2, hD2⟩ : ∃ D2, D2 = (D'.read ((k' : Int) + 1)).1 := ⟨_, rfl⟩
                obtain ⟨bb, hbb⟩ : ∃ bb, bb = (D'.read ((k' : Int) + 1)).2.1 := ⟨_, rfl⟩
                have CR : Hid (Calls Tryz.prog 62 #[dv D' q', .int .i64 ((k' : Int) + 1)] wr fun e w' => ∃ q2 p2 m2 c2, e = .returned (.tuple #[dv D2 q2, .slice p2 m2 c2, .int .i64 z]) ∧ RD (NoRow A3 (.slice oa on oc)) w' D2 q2 ∧ B5 (NoRow A3 (.slice oa on oc)) w' p2 m2 c2 bb ∧ Below wr.heap.size wr w') := by
                  show Calls _ _ _ _ _
                  rw [hz, hD2, hbb]
                  exact rRead wr I1.out.rd HNR.out F2.out (by omega) ((k' : Int) + 1) (by constructor <;> omega)
                rw [← hz, ← hD2, ← hbb] at E2
                rw [← hD2] at F3
                clear hz hD2 hbb E1 F2
                go_upto_region 15 with fail
                go_wp2_with ((with_reducible refine at_ld 42 ?_); (refine ld 42 (.tmp 13) 10 sizeDk _ Tryz.underlying42 rfl xX 0 (dc D' q') rfl I1.out.x.whole rfl ?_))
                refine CR.out.mono ?_
                rintro x w3 ⟨q2, p2, m2, c2, rfl, r3, b3, hb3⟩
                have R3 : Hid (RD (NoRow A3 (.slice oa on oc)) w3 D2 q2) := r3
                have B3 : Hid (B5 (NoRow A3 (.slice oa on oc)) w3 p2 m2 c2 bb) := b3
                have G3 : Hid (Below wr.heap.size wr w3) := hb3
                clear r3 b3 hb3 CR
                have z7 : Blk (w3.alloc (.cells #[.int .i64 0, .int .i64 0, .bool false, .bool false, .int .i64 0, .slice none 0 0, .slice none 0 0, .slice none 0 0, .slice none 0 0, .int .i64 0] 42)) w3.heap.size z40 42 := Blk.newAt w3 _ _ w3.heap.size rfl _ rfl
                have k7 : Below w3.heap.size w3 (w3.alloc (.cells #[.int .i64 0, .int .i64 0, .bool false, .bool false, .int .i64 0, .slice none 0 0, .slice none 0 0, .slice none 0 0, .slice none 0 0, .int .i64 0] 42)) := below_alloc _ _
                go_upto_region 16 with ((with_reducible refine at_st 42 ?_); (refine st' 42 (.tmp 21) (.tmp 83) 10 sizeDk w3.heap.size 0 (dc D2 q2) rfl (dc_one _ _) (z7.there 0 10 (by simp [z40])) rfl rfl ?_); intro w4 hw8; have X4 : Hid (Blk w4 w3.heap.size (dc D2 q2) 42) := (by rw [hw8]; exact z7.setsW _ rfl); have K4 : Hid (Below w3.heap.size w3 w4) := (by rw [hw8]; exact below_sets (Nat.le_refl _) _ k7 0); clear hw8)
                clear z7 k7
                have XC : Hid (Blk w4 xX (dc D' q') 42) := (I1.out.x.below G3.out I1.out.x.lt).below K4.out (by have := G3.out.size; have := I1.out.x.lt; omega)
                obtain ⟨xY, hxY⟩ : ∃ x, x = w3.heap.size := ⟨_, rfl⟩
                rw [← hxY] at X4 ⊢
                go_upto_region 17 with (first | ((with_reducible refine at_ld 42 ?_); (refine ld 42 (.tmp 21) 10 sizeDk _ Tryz.underlying42 rfl xY 0 (dc D2 q2) rfl X4.out.whole rfl ?_)) | ((with_reducible refine at_st 42 ?_); (refine st' 42 (.tmp 13) (.tmp 86) 10 sizeDk xX 0 (dc D2 q2) rfl (dc_one _ _) (XC.out.there 0 10 (by simp [dc])) rfl rfl ?_); intro w5 hw8; have X5 : Hid (Blk w5 xX (dc D2 q2) 42) := (by rw [hw8]; exact XC.out.setsW _ rfl); have K5 : Hid (Kp (fun j => j = xX) w4 w5) := (by rw [hw8]; exact Kp.sets w4 xX _ 0); clear hw8))
                have G4 : Hid (Below wr.heap.size wr w4) := G3.out.trans (K4.out.mono G3.out.size)
                have HXF : Hid (∀ j, NoRow A3 (.slice oa on oc) j → ¬ j = xX) := fun j hj e => (HB3.out j hj.1).2 e
                have R5 : Hid (RD (NoRow A3 (.slice oa on oc)) w5 D2 q2) := (R3.out.below K4.out).kp K5.out HXF.out
                have B5' : Hid (B5 (NoRow A3 (.slice oa on oc)) w5 p2 m2 c2 bb) := (B3.out.below K4.out).kp K5.out HXF.out
                have Y5 : Hid (Blk w5 xR z40 42) := K5.out.blk (I1.out.r.below G4.out I1.out.r.lt) (fun e => HXX.out.1 e.symm)
                have T5 : Hid (BA (fun j => A3 j ∧ j < nb) w5 ta tn tc t) := (I1.out.t.below' G4.out).kp K5.out fun j hj e => (HB3.out j hj.1).2 e
                have O5 : Hid (OwS (elC A3) 2 79 w5 nb (.slice oa on oc) acc) := OwC.kp (OwC.below I1.out.o G4.out) K5.out (fun j e => by have := HNB.out; omega) fun j hj e => (HB3.out j hj).2 e
                have Q5 : Hid (Below w.heap.size w w5) := Kp.new (I1.out.bel.trans (G4.out.mono I1.out.bel.size)) K5.out fun j e => by have := HXX.out; omega
                have L5 : Hid (nb ≤ w5.heap.size) := Nat.le_trans I1.out.le (Nat.le_trans G4.out.size K5.out.size)
                clear hxY I1 R3 B3 G3 G4 X4 K4 XC K5 HXF
                by_cases z0 : z = 0
                · subst z0
                  have E3 : Hid (readD D1 1 [] (pagL t G) = readD D2 (k' + 2) (acc ++ [((getN ((t.drop (2 + 2 * k')).take 2) : Int), bb)]) ((pagL t G).drop (k' + 1))) := by show _ = _; rw [E2.out, if_pos rfl]
                  clear E2
                  obtain ⟨lo, hlo⟩ : ∃ lo : Nat, lo = 2 + 2 * k' := ⟨_, rfl⟩
                  obtain ⟨hi, hhi⟩ : ∃ hi : Nat, hi = 4 + 2 * k' := ⟨_, rfl⟩
                  have hlo' : (2 : Int) + 2 * (k' : Int) = (lo : Int) := by omega
                  have hhi' : (4 : Int) + 2 * (k' : Int) = (hi : Int) := by omega
                  obtain ⟨sa, sc, hcut, hcb⟩ := BA.cut2 T5.out.1 lo hi (by omega) (by have := HTN.out; omega)
                  have hlh : hi - lo = 2 := by omega
                  rw [hlh] at hcut hcb
                  rw [← hlo] at E3
                  have hg3 := getN_two (l := (t.drop lo).take 2) (by rw [List.length_take]; omega)
                  have CG : Hid (Calls Tryz.prog 64 #[.slice sa 2 sc] w5 fun e w' => e = .returned (.int .u64 (getN ((t.drop lo).take 2) : Nat)) ∧ Below w5.heap.size w5 w') := (rGet w5 (hcb _ w5 T5.out).1).mono (by rintro e w' ⟨rfl, rfl⟩; exact ⟨rfl, Below.refl _ _⟩)
                  obtain ⟨H, hH⟩ : ∃ H, H = getN ((t.drop lo).take 2) := ⟨_, rfl⟩
                  rw [← hH] at CG E3 hg3
                  clear hH hlo hhi hcb hlh
                  go_wp2_with fail
                  refine CG.out.mono ?_
                  rintro x w6 ⟨rfl, hb6⟩
                  clear hcut hlo' hhi'
                  have i64H : i64 (H : Int) := by unfold i64; omega
                  have b7 : Hid (Blk (w6.alloc (.cells #[.int .i64 (H : Int), .slice p2 m2 c2] 79)) w6.heap.size [.int .i64 (H : Int), .slice p2 m2 c2] 79) := Blk.newAt w6 _ _ w6.heap.size rfl _ rfl
                  have G7 : Hid (Below w5.heap.size w5 (w6.alloc (.cells #[.int .i64 (H : Int), .slice p2 m2 c2] 79))) := hb6.trans ((below_alloc w6 _).mono hb6.size)
                  have HO7 : Hid (OwS (elC A3) 2 79 (w6.alloc (.cells #[.int .i64 (H : Int), .slice p2 m2 c2] 79)) nb (.slice oa on oc) acc) := OwC.below O5.out G7.out
                  have HR7 : Hid (Row (elC A3) 2 (w6.alloc (.cells #[.int .i64 (H : Int), .slice p2 m2 c2] 79)) ((H : Int), bb) [.int .i64 (H : Int), .slice p2 m2 c2]) := ⟨rfl, oneI _ _ _ _, p2, m2, c2, rfl, (B5'.out.below G7.out).mono fun j _ hj => hj.1, i64H⟩
                  have HZ7 : Hid (acc.length + 1 ≤ 1000000) := by show _ ≤ _; rw [HAL.out]; omega
                  have HS7 : Hid (nb ≤ (w6.alloc (.cells #[.int .i64 (H : Int), .slice p2 m2 c2] 79)).heap.size) := Nat.le_trans L5.out G7.out.size
                  clear i64H hb6 CG
                  go_wp2_with (at_builtin; refine wpList_app1At (elC A3) 2 32 46 79 _ Tryz.underlying46 infoI rfl (by decide) (by decide) (w6.alloc (.cells #[.int .i64 (H : Int), .slice p2 m2 c2] 79)) rfl (.tmp 91) (.tmp 104) rfl nb (.slice oa on oc) acc rfl HO7.out w6.heap.size 1 ((H : Int), bb) [.int .i64 (H : Int), .slice p2 m2 c2] rfl b7.out.whole HR7.out HZ7.out HS7.out (fun w' x vs hg hx => elC.grown hg (HO7.out.not5 neI5) x vs hx) ?_; intro v8 w8 o8 g8 hp8; obtain ⟨a8, n8, c8, rfl, hn8⟩ := o8.shape; have O8 : Hid (OwS (elC A3) 2 79 w8 nb (.slice a8 n8 c8) (acc ++ [((H : Int), bb)])) := o8; have G8 : Hid ((w6.alloc (.cells #[.int .i64 (H : Int), .slice p2 m2 c2] 79)).grownBy w8 (Value.slice oa on oc).ownBlock) := g8; have P8 : Hid ((Value.slice a8 n8 c8).ownBlock = (Value.slice oa on oc).ownBlock ∨ (Value.slice a8 n8 c8).ownBlock = some (w6.alloc (.cells #[.int .i64 (H : Int), .slice p2 m2 c2] 79)).heap.size) := hp8; clear o8 g8 hp8 hn8)
                  have hown := HO7.out.lt
                  have KR8 : Kp (fun j => (Value.slice oa on oc).ownBlock = some j) (w6.alloc (.cells #[.int .i64 (H : Int), .slice p2 m2 c2] 79)) w8 := ⟨G8.out.os, G8.out.tape, G8.out.output, G8.out.size, fun j hj hn => G8.out.block j hj fun e => hn e.symm⟩
                  have I9 : Hid (RrI A3 w w8 nb xX xR D2 q2 (.slice a8 n8 c8) (acc ++ [((H : Int), bb)]) ta tn tc t) := by
                    refine ⟨?_, KR8.blk (X5.out.below G7.out X5.out.lt) fun e => by have := (hown _ e).1; have := HNB.out; omega, KR8.blk (Y5.out.below G7.out Y5.out.lt) fun e => by have := (hown _ e).1; have := HNB.out; omega, (T5.out.below' G7.out).kp KR8 fun j hj e => by have := (hown _ e).1; have := hj.2; omega, O8.out, ?_, Nat.le_trans HS7.out KR8.size⟩
                    · have h1 : RD (fun j => NoRow A3 (.slice oa on oc) j ∧ j < (w6.alloc (.cells #[.int .i64 (H : Int), .slice p2 m2 c2] 79)).heap.size) (w6.alloc (.cells #[.int .i64 (H : Int), .slice p2 m2 c2] 79)) D2 q2 := (R5.out.below G7.out).mono fun j hj ha => ⟨ha, hj⟩
                      refine (h1.kp KR8 fun j hj e => hj.1.2 e).mono fun j _ hj => ⟨hj.1.1, fun e => ?_⟩
                      rcases P8.out with h2 | h2
                      · rw [h2] at e
                        exact hj.1.2 e
                      · rw [h2] at e
                        have := Option.some.inj e
                        have := hj.2
                        omega
                    · exact Kp.new (Q5.out.trans (G7.out.mono Q5.out.size)) KR8 fun j e => by have := (hown _ e).1; have := HNB.out; have := HXX.out; omega
                  have HAL2 : Hid ((acc ++ [((H : Int), bb)]).length = k' + 1) := by show _ = _; rw [List.length_append, HAL.out]; rfl
                  clear KR8 hown O8 G8 P8 HO7 HR7 HZ7 HS7 b7 G7 R5 B5' Y5 T5 O5 Q5 L5 X5 HAL
                  go_roundw
                  case rel => exact ⟨k' + 1, D2, q2, _, _, _, _, by omega, by go_num, rfl, I9, F3, HAL2, E3⟩
                  case measure => simp [intOf]; omega
                · have HP5 : Hid (P = RedR A (D2, [], z) w) := by show P = _; rw [HP4.out, E2.out, if_neg z0]
                  clear E2 HP4
                  go_wp2_with (first | ((with_reducible refine at_ld 42 ?_); (refine ld 42 (.tmp 13) 10 sizeDk _ Tryz.underlying42 rfl xX 0 (dc D2 q2) rfl X5.out.whole rfl ?_)) | ((with_reducible refine at_st 42 ?_); (refine st' 42 (.tmp 10) (.tmp 89) 10 sizeDk xR 0 (dc D2 q2) rfl (dc_one _ _) (Y5.out.there 0 10 (by simp [z40])) rfl rfl ?_); intro w9 hw8; have Y9 : Hid (Blk w9 xR (dc D2 q2) 42) := (by rw [hw8]; exact Y5.out.setsW _ rfl); have K9 : Hid (Kp (fun j => j = xR) w5 w9) := (by rw [hw8]; exact Kp.sets w5 xR _ 0); clear hw8))
                  refine bodyPost_ret (v := .tuple #[dv D2 q2, .slice none 0 0, .int .i64 z]) (resCTT12 Tryz.results25 _ _ xR (dc D2 q2).toArray rfl (run_loadVar_row w9 xR 42 42 (dc D2 q2).toArray (0, 0) _ Y9.out Tryz.underlying42 rfl sizeDk) _ _ rfl rfl) rfl ?_
                  rw [HP5.out]
                  exact ⟨q2, _, _, _, rfl, (R5.out.kp K9.out fun i hi e => (HB1.out i (HB3.out i hi.1).1).2 e).mono fun i _ hi => (HB1.out i (HB3.out i hi.1).1).1, Sl.nil _ _ _ _, Kp.new Q5.out K9.out fun i e => by have := HX.out; omega⟩
              · have j0 : ¬ (k' : Int) < (G : Int) := by omega
                obtain rfl : k' = G := by omega
                have HP5 : Hid (P = RedR A (D', acc, 0) w) := by
                  show P = _
                  rw [HP4.out, E1.out, List.drop_of_length_le (by rw [pagL_length]; exact Nat.le_refl _), readD_nil]
                have IM : Hid (Imgs A3 wr oa on oc acc) := I1.out.o.sl3 fun j hj _ => HND.out j hj
                clear E1 HP4
                go_wp2_with (first | ((with_reducible refine at_ld 42 ?_); (refine ld 42 (.tmp 13) 10 sizeDk _ Tryz.underlying42 rfl xX 0 (dc D' q') rfl I1.out.x.whole rfl ?_)) | ((with_reducible refine at_st 42 ?_); (refine st' 42 (.tmp 10) (.tmp 106) 10 sizeDk xR 0 (dc D' q') rfl (dc_one _ _) (I1.out.r.there 0 10 (by simp [z40])) rfl rfl ?_); intro w9 hw8; have Y9 : Hid (Blk w9 xR (dc D' q') 42) := (by rw [hw8]; exact I1.out.r.setsW _ rfl); have K9 : Hid (Kp (fun j => j = xR) wr w9) := (by rw [hw8]; exact Kp.sets wr xR _ 0); clear hw8))
                refine bodyPost_ret (v := .tuple #[dv D' q', .slice oa on oc, .int .i64 0]) (resCTT12 Tryz.results25 _ _ xR (dc D' q').toArray rfl (run_loadVar_row w9 xR 42 42 (dc D' q').toArray (0, 0) _ Y9.out Tryz.underlying42 rfl sizeDk) _ _ rfl rfl) rfl ?_
                rw [HP5.out]
                exact ⟨q', _, _, _, rfl, (I1.out.rd.kp K9.out fun i hi e => (HB1.out i (HB3.out i hi.1).1).2 e).mono fun i _ hi => (HB1.out i (HB3.out i hi.1).1).1, (IM.out.kp K9.out fun i hi e => (HB1.out i (HB3.out i hi).1).2 e).mono fun i _ hi => (HB1.out i (HB3.out i hi).1).1, Kp.new I1.out.bel K9.out fun i e => by have := HX.out; omega⟩
          · have HP4 : Hid (P = RedR A (D1, [], 6) w) := by show P = _; rw [HP3.out, if_neg hGN]
            have hne : ¬ (G : Int) = (N : Int) := by omega
            clear HP3 hGN
            go_wp2_with (first | ((with_reducible refine at_ld 42 ?_); (refine ld 42 (.tmp 13) 10 sizeDk _ Tryz.underlying42 rfl xX 0 (dc D1 q1) rfl XD.out.whole rfl ?_)) | ((with_reducible refine at_st 42 ?_); (refine st' 42 (.tmp 10) (.tmp 72) 10 sizeDk xR 0 (dc D1 q1) rfl (dc_one _ _) (BRD.out.there 0 10 (by simp [z40])) rfl rfl ?_); intro w9 hw8; have Y9 : Hid (Blk w9 xR (dc D1 q1) 42) := (by rw [hw8]; exact BRD.out.setsW _ rfl); have K9 : Hid (Kp (fun j => j = xR) wd w9) := (by rw [hw8]; exact Kp.sets wd xR _ 0); clear hw8))
            refine bodyPost_ret (v := .tuple #[dv D1 q1, .slice none 0 0, .int .i64 6]) (resCTT12 Tryz.results25 _ _ xR (dc D1 q1).toArray rfl (run_loadVar_row w9 xR 42 42 (dc D1 q1).toArray (0, 0) _ Y9.out Tryz.underlying42 rfl sizeDk) _ _ rfl rfl) rfl ?_
            rw [HP4.out]
            exact ⟨q1, _, _, _, rfl, (RDD.out.kp K9.out fun i hi e => (HB1.out i (HB3.out i hi).1).2 e).mono fun i _ hi => (HB1.out i (HB3.out i hi).1).1, Sl.nil _ _ _ _, Kp.new QD.out K9.out fun i e => by have := HX.out; omega⟩
    · have HP2 : Hid (P = RedR A (D1, [], z) w) := by show P = _; rw [HP1.out, if_neg z0]
      clear HP1
      go_wp2_with (first | ((with_reducible refine at_ld 42 ?_); (refine ld 42 (.tmp 13) 10 sizeDk _ Tryz.underlying42 rfl xX 0 (dc D1 q1) rfl X8.out.whole rfl ?_)) | ((with_reducible refine at_st 42 ?_); (refine st' 42 (.tmp 10) (.tmp 43) 10 sizeDk xR 0 (dc D1 q1) rfl (dc_one _ _) (BR1.out.there 0 10 (by simp [z40])) rfl rfl ?_); intro w9 hw8; have Y9 : Hid (Blk w9 xR (dc D1 q1) 42) := (by rw [hw8]; exact BR1.out.setsW _ rfl); have K9 : Hid (Kp (fun j => j = xR) wr w9) := (by rw [hw8]; exact Kp.sets wr xR _ 0); clear hw8))
      refine bodyPost_ret (v := .tuple #[dv D1 q1, .slice none 0 0, .int .i64 z]) (resCTT12 Tryz.results25 _ _ xR (dc D1 q1).toArray rfl (run_loadVar_row w9 xR 42 42 (dc D1 q1).toArray (0, 0) _ Y9.out Tryz.underlying42 rfl sizeDk) _ _ rfl rfl) rfl ?_
      rw [HP2.out]
      exact ⟨q1, _, _, _, rfl, (R1.out.kp K9.out fun i hi e => (HB1.out i hi).2 e).mono fun i _ hi => (HB1.out i hi).1, Sl.nil _ _ _ _, Kp.new Q1.out K9.out fun i e => by have := HX.out; omega⟩

end Go.Proofs.YtlenmkhmkommcaaGreat
