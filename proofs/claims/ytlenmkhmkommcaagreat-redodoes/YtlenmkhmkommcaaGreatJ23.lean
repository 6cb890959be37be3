/-
  8 texts in one. No statement of the seat is proved here.
-/
import Derived.Test.YtlenmkhmkommcaaGreatJ22
import Derived.Deep.RegionLaw
import Derived.BigRegion
/-
  How the program's disk outlasts what layer 9's statements do around it: which memory it uses ('StaD'), what was answered once ('BA.after'). No condition.
-/
namespace Go.Proofs.YtlenmkhmkommcaaGreat
open Go.RowKit

/-- The disk D in memory that is all newer than w0. -/
structure StaD (w0 w : World) (d r : Nat) (U F : Nat → Prop) (D : DskS) : Prop where
  dk : Dk U F w d r D
  base : ∀ j, U j → w0.heap.size ≤ j
  bel : Below w0.heap.size w0 w
theorem StaD.after {w0 w w' : World} {d r : Nat} {U F U' F' : Nat → Prop} {D D' : DskS} (h : StaD w0 w d r U F D) (hd : Dk U' F' w' d r D') (hU : Next w U U') (k : Kp F w w') : StaD w0 w' d r U' F' D' :=
  ⟨hd, fun j hj => by
    have := h.bel.size
    rcases hU j hj with h1 | h1
    · exact h.base j h1
    · omega, below_kp h.bel k h.bel.size fun j hj hF => by
    have := h.base j (h.dk.sub j hF)
    omega⟩
theorem StaD.grow {w0 w w' : World} {d r : Nat} {U F : Nat → Prop} {D : DskS} (h : StaD w0 w d r U F D) (k : Below w.heap.size w w') : StaD w0 w' d r U F D := ⟨h.dk.grows k, h.base, h.bel.trans (k.mono h.bel.size)⟩
/-- Newer memory is none that the disk writes. -/
theorem StaD.new {w0 w w' : World} {d r : Nat} {U F : Nat → Prop} {D : DskS} (h : StaD w0 w d r U F D) {p : Option Addr} {m q : Nat} {b : List UInt8} (hb : B5 (fun j => w.heap.size ≤ j) w' p m q b) : BA (fun j => ¬ F j) w' p m q b :=
  (hb.mono (A' := fun j => ¬ F j) fun j _ hj hF => by have := h.dk.lt j (h.dk.sub j hF); omega).ba
/-- What is older than w0 is none that the disk uses. -/
theorem StaD.old {w0 w : World} {d r : Nat} {U F : Nat → Prop} {D : DskS} (h : StaD w0 w d r U F D) : ∀ j, j < w0.heap.size → ¬ F j := fun j hj hF => by
  have := h.base j (h.dk.sub j hF)
  omega
theorem StaD.power {w0 w w' : World} {d r : Nat} {U F : Nat → Prop} {D : DskS} (h : StaD w0 w d r U F D) {P : PowS} (hp : Pw w' r P) (k : Kp (fun j => j = r) w w') : StaD w0 w' d r U F { D with p := P } :=
  h.after (h.dk.power hp k) (fun j hj => Or.inl hj) (k.mono fun j _ e => by rw [e]; exact h.dk.pw.2)
theorem StaD.first {w0 w w' : World} {d r : Nat} {U F : Nat → Prop} {D : DskS} (hb : Below w0.heap.size w0 w) (hr : w0.heap.size ≤ r) (hd : Dk U F w' d r D) (hU : ∀ j, U j → j = r ∨ w.heap.size ≤ j) (hb' : Below w.heap.size w w') : StaD w0 w' d r U F D :=
  ⟨hd, fun j hj => by
    have := hb.size
    rcases hU j hj with h | h <;> omega, hb.trans (hb'.mono hb.size)⟩

end Go.Proofs.YtlenmkhmkommcaaGreat

/-
  Contracts of layer 16's program's small functions: check, nonce, beside, head, headSize, filled, logged. Conditions: epochs up to 2^40; at most a thousand pages.
-/
namespace Go.Proofs.YtlenmkhmkommcaaGreat
open Go.RowKit
set_option linter.unusedVariables false

theorem infoI : (Tryz.prog.info? 79).map (fun i => (i.zero, i.size, i.bytes)) = some (some (.agg #[.int .i64 0, .slice none 0 0]), 2, 32) := by kernel_rfl
theorem sizeI : (Tryz.prog.info? 79).map (·.size) = some 2 := by kernel_rfl
theorem neI5 : 79 ≠ 5 := by decide
theorem oneI (k : Int) (p : Option Addr) (m q : Nat) : ∀ v ∈ [Value.int .i64 k, .slice p m q], v.oneCell' = true := by
  intro v hv
  simp at hv
  rcases hv with rfl | rfl <;> rfl
/-- Images in memory of A. -/
abbrev Imgs (A : Nat → Prop) (w : World) (a : Option Addr) (n c : Nat) (l : List Chg) : Prop := Sl (elC A) 2 A w a n c l
theorem Imgs.keep {A : Nat → Prop} {w w' : World} {a : Option Addr} {n c : Nat} {l : List Chg} (h : Imgs A w a n c l) (hs : w.heap.size ≤ w'.heap.size) (hk : ∀ j, j < w.heap.size → A j → w'.heap[j]? = w.heap[j]?) : Imgs A w' a n c l := Sl.keep h hs (elC.keep hk) hk
theorem Imgs.grow {A : Nat → Prop} {w w' : World} {a : Option Addr} {n c : Nat} {l : List Chg} (h : Imgs A w a n c l) (hb : Below w.heap.size w w') : Imgs A w' a n c l := h.keep hb.size fun j hj _ => hb.block j hj
theorem Imgs.kp {A F : Nat → Prop} {w w' : World} {a : Option Addr} {n c : Nat} {l : List Chg} (h : Imgs A w a n c l) (k : Kp F w w') (hA : ∀ j, A j → ¬ F j) : Imgs A w' a n c l := h.keep k.size fun j hj ha => k.block j hj (hA j ha)
theorem elC.mono {A A' : Nat → Prop} {w : World} (hA : ∀ j, j < w.heap.size → A j → A' j) : ∀ c vs, elC A w c vs → elC A' w c vs := by
  rintro c vs ⟨p, m, q, e, hb, hi⟩
  exact ⟨p, m, q, e, hb.mono hA, hi⟩
theorem Imgs.mono {A A' : Nat → Prop} {w : World} {a : Option Addr} {n c : Nat} {l : List Chg} (h : Imgs A w a n c l) (hA : ∀ j, j < w.heap.size → A j → A' j) : Imgs A' w a n c l := Sl.mono h (elC.mono hA) hA
/-- One of them. -/
theorem Imgs.at {A : Nat → Prop} {w : World} {a : Option Addr} {n c : Nat} {l : List Chg} (h : Imgs A w a n c l) {s : Nat} {x : Chg} (hx : l[s]? = some x) :
    ∃ b o p m q, a = some ⟨b, o, none⟩ ∧ b < w.heap.size ∧ A b ∧ w.rangeAt b (o + s * 2) [.int .i64 x.1, .slice p m q] ∧ B5 A w p m q x.2 ∧ i64 x.1 := by
  obtain ⟨b, o, vs, ha, hlt, hrg, hl, p, m, q, rfl, hb, hi⟩ := Sl.at h hx
  have hs : s < l.length := (List.getElem?_eq_some_iff.1 hx).1
  obtain ⟨_, _, hl, _, _, _, h5⟩ := h
  obtain ⟨b', o', ha', _, hA, _⟩ := h5 (by omega)
  rw [ha] at ha'
  obtain ⟨rfl, _⟩ : b = b' ∧ o = o' := by simpa using ha'
  exact ⟨b, o, p, m, q, ha, hlt, hA, hrg, hb, hi⟩
/-- 'make([]E, 0, n)' of structs. -/
theorem wpList_mkS0 {α : Type} (el : World → α → List Value → Prop) (sz by_ : Nat) (t e : TypeId) (z : Value) (ht : Tryz.prog.underlying t = some (.slice e)) (hi : (Tryz.prog.info? e).map (fun i => (i.zero, i.size, i.bytes)) = some (some z, sz, by_)) (hby : by_ ≤ 1000)
    {ops : Array Oper} {rest : List Oper} {o : Oper} {a : Act} {Q : Exit → Act → World → Prop} (w : World) (hgd : o.guard = none) (l c : Operand)
    (ho : o.op = Op.makeSlice t l c) (base : Nat) (C : Int) (hl : a.eval l = .int .i64 0) (hc : a.eval c = .int .i64 C) (h0 : 0 ≤ C) (hz : C ≤ 1000000) (hbase : base ≤ w.heap.size)
    (h : ∀ v w', OwS el sz e w' base v [] → Below base w w' → wpList Tryz.prog ops Q rest (a.put o.dst v) w') : wpList Tryz.prog ops Q (o :: rest) a w := by
  obtain ⟨i0, hi, hz0, hz1, hz2⟩ := info_parts hi
  refine wpList_make_own w hgd l c t ho base e i0 z sz ht hi hz0 hz1 .i64 .i64 C C.toNat hl hc (by omega) (by rw [hz2]; have := Nat.mul_le_mul hby (show C.toNat ≤ 1000000 by omega); omega) (by unfold maxLen; omega) hbase ?_
  intro w' ho' hg
  exact h _ w' ⟨[], trivial, ho'⟩ ((Below.refl _ _).grown hg hbase (by simp))

theorem oHdSize (w : World) (n : Nat) (hn : n ≤ 1000) : Calls Tryz.prog 58 #[.int .i64 (n : Int)] w fun e w' => e = .returned (.int .i64 ((2 + 2 * n : Nat) : Int)) ∧ w = w' := by
  rw [show ((2 + 2 * n : Nat) : Int) = 2 + (n : Int) * 2 from by omega]
  go_enter Tryz.func58, Tryz.ntmps58
  go_wp2_with fail
  go_ret
  exact ⟨rfl, rfl⟩
theorem oNonce16 (w : World) (e : Nat) (he : e ≤ 1099511627776) : Calls Tryz.prog 45 #[.int .i64 (e : Int)] w (Gives w (nonR e)) := by
  go_enter Tryz.func45, Tryz.ntmps45
  go_wp2_with fail
  refine (oSNonce w e 4294967295 (by omega) (by omega)).mono ?_
  rintro x w1 ⟨a1, m1, c1, rfl, o1, hb1⟩
  go_wp2_with fail
  go_ret
  exact ⟨a1, m1, c1, rfl, o1, hb1⟩
theorem bes_tot16 (e : Nat) : tot [[108, 111, 103], putL e 8] ≤ 100000 := by simp [tot, putL_length]
set_option maxHeartbeats 1000000 in
theorem oBes16 (w : World) (e : Nat) (he : e ≤ 1099511627776) : Calls Tryz.prog 46 #[.int .i64 (e : Int)] w (Gives w (besR e)) := by
  have kc := fun (w : World) (C : Array Value) (n c : Nat) => Lib.run_convert_bytes_const (P := Tryz.prog) w 26 5 C n c Tryz.underlying26 Tryz.underlying5
  have X2 : Hid (Bs (w.alloc (.cells #[.int .u8 108, .int .u8 111, .int .u8 103] 5 (3, 4))) (some ⟨w.heap.size, 0, none⟩) 3 3 [108, 111, 103]) := Bs.marked w [108, 111, 103] _ (3, 4) rfl (by decide)
  have b2 : Hid (Below w.heap.size w (w.alloc (.cells #[.int .u8 108, .int .u8 111, .int .u8 103] 5 (3, 4)))) := below_alloc w _
  go_enter Tryz.func46, Tryz.ntmps46
  go_wp2_with fail
  clear kc
  obtain ⟨x, hx⟩ : ∃ x, x = w.heap.size := ⟨_, rfl⟩
  generalize w.alloc (.cells #[.int .u8 108, .int .u8 111, .int .u8 103] 5 (3, 4)) = w2 at *
  rw [← hx] at X2 ⊢
  refine (oPut (e : Int) 8 w2 (by omega) (by omega) (by omega) (by omega)).mono ?_
  rintro _ w4 ⟨a4, m4, c4, rfl, o4, hb4⟩
  have P4 : Hid (Bs w4 a4 m4 c4 (putL e 8)) := o4.toBs
  have X4 : Hid (Bs w4 (some ⟨x, 0, none⟩) 3 3 [108, 111, 103]) := X2.out.below hb4 (Nat.le_refl _)
  have Q4 : Hid (Below w.heap.size w w4) := b2.out.trans (hb4.mono b2.out.size)
  clear o4 hb4 X2 b2 hx
  have H5 : Hid (Bss (w4.alloc (.cells #[.slice (some ⟨x, 0, none⟩) 3 3, .slice a4 m4 c4] 26)) (some ⟨w4.heap.size, 0, none⟩) 2 2 [[108, 111, 103], putL e 8]) := Bss.two X4.out P4.out
  have b5 : Hid (Below w4.heap.size w4 (w4.alloc (.cells #[.slice (some ⟨x, 0, none⟩) 3 3, .slice a4 m4 c4] 26))) := below_alloc w4 _
  go_wp2_with fail
  generalize w4.alloc (.cells #[.slice (some ⟨x, 0, none⟩) 3 3, .slice a4 m4 c4] 26) = w5 at *
  refine (oPack w5 H5.out (bes_tot16 e) (by omega)).mono ?_
  rintro _ w6 ⟨a6, m6, c6, rfl, o6, hb6⟩
  have Q5 := Q4.out.trans (b5.out.mono Q4.out.size)
  have Q6 := Q5.trans (hb6.mono Q5.size)
  have O6 := o6.mono Q5.size
  clear H5 b5 X4 P4 Q4 o6 hb6
  go_wp2_with fail
  go_ret
  exact ⟨a6, m6, c6, rfl, O6, Q6⟩
theorem fil_eq (b : List UInt8) (n : Nat) (h : b.length = n) : [b, putL 0 (512 - n)].flatten = pad b := by
  subst h
  rw [putL_zero]
  simp [pad]
set_option maxHeartbeats 1000000 in
theorem oFil16 (w : World) {a : Option Addr} {n c : Nat} {b : List UInt8} (h : Bs w a n c b) (hn : n ≤ 512) : Calls Tryz.prog 87 #[.slice a n c] w (Gives w (pad b)) := by
  have HB : Hid (Bs w a n c b) := h
  have HL : Hid (b.length = n) := h.len
  have e1 : (512 : Int) - (n : Int) = ((512 - n : Nat) : Int) := by omega
  clear h
  go_enter Tryz.func87, Tryz.ntmps87
  go_wp2_with fail
  refine (oPut 0 ((512 - n : Nat) : Int) w (by omega) (by omega) (by omega) (by omega)).mono ?_
  rintro _ w4 ⟨a4, m4, c4, rfl, o4, hb4⟩
  have P4 : Hid (Bs w4 a4 m4 c4 (putL 0 (512 - n))) := o4.toBs
  have X4 : Hid (Bs w4 a n c b) := HB.out.below hb4 (Nat.le_refl _)
  have H5 : Hid (Bss (w4.alloc (.cells #[.slice a n c, .slice a4 m4 c4] 26)) (some ⟨w4.heap.size, 0, none⟩) 2 2 [b, putL 0 (512 - n)]) := Bss.two X4.out P4.out
  have b5 : Hid (Below w.heap.size w (w4.alloc (.cells #[.slice a n c, .slice a4 m4 c4] 26))) := hb4.trans ((below_alloc w4 _).mono hb4.size)
  have HT : Hid (tot [b, putL 0 (512 - n)] ≤ 100000) := by show _ ≤ _; have := HL.out; simp [tot, putL_length]; omega
  clear o4 hb4 X4 P4
  go_wp2_with fail
  generalize w4.alloc (.cells #[.slice a n c, .slice a4 m4 c4] 26) = w5 at *
  refine (oJoin w5 H5.out HT.out).mono ?_
  rintro _ w6 ⟨a6, m6, c6, rfl, o6, hb6⟩
  have Q6 := b5.out.trans (hb6.mono b5.out.size)
  have O6 := o6.mono b5.out.size
  rw [fil_eq b n HL.out] at O6
  clear H5 b5 o6 hb6
  go_wp2_with fail
  go_ret
  exact ⟨a6, m6, c6, rfl, O6, Q6⟩

/-- An image, loaded into a variable of its own: what is there then. -/
theorem chk_step {l : List Chg} {k : Nat} {c : Chg} (hx : l[k]? = some c) (h : ∀ x ∈ l.take k, okI x) (hc : okI c) : ∀ x ∈ l.take (k + 1), okI x := fun x ho => by
  rw [List.take_add_one, hx] at ho
  rcases List.mem_append.1 ho with ho | ho
  · exact h x ho
  · simp at ho
    subst ho
    exact hc
theorem chkL_bad {l : List Chg} (h1 : l.length ≤ 23) {c : Chg} (hc : c ∈ l) (h : ¬ okI c) : chkL l = 17 := by
  unfold chkL
  rw [if_neg (by omega), if_neg fun hh => h (hh c hc)]
set_option maxRecDepth 100000 in
set_option maxHeartbeats 2000000 in
theorem oChk16 (w : World) {A : Nat → Prop} {a : Option Addr} {n c : Nat} {l : List Chg} (h : Imgs A w a n c l) : Calls Tryz.prog 43 #[.slice a n c] w fun e w' => e = .returned (.int .i64 (chkL l)) ∧ Below w.heap.size w w' := by
  have HI : Hid (Imgs A w a n c l) := h
  have HL : Hid (l.length = n) := Sl.len h
  have hmax := Sl.cap h
  clear h
  by_cases h23 : 23 < n
  · have i0 : (23 : Int) < (n : Int) := by omega
    have HC : Hid (chkL l = 16) := by show _ = _; unfold chkL; rw [HL.out, if_pos h23]
    go_enter Tryz.func43, Tryz.ntmps43
    go_wp2_with fail
    go_ret
    exact ⟨by rw [HC.out]; rfl, Below.refl _ _⟩
  · have i0 : ¬ (23 : Int) < (n : Int) := by omega
    go_enter Tryz.func43, Tryz.ntmps43
    go_wp2_with fail
    go_loopw [10] (fun i wr => ∃ k : Nat, k ≤ n ∧ i = .int .i64 (k : Int) ∧ Hid (∀ x ∈ l.take k, okI x) ∧ Hid (Below w.heap.size w wr)) (fun i _ => n - (intOf i).toNat)
    case atStart => exact ⟨0, Nat.zero_le _, rfl, fun x hx => by simp at hx, Below.refl _ _⟩
    case round =>
      obtain ⟨k, hk, rfl, HK, HB⟩ := hrel
      by_cases hlt : k < n
      · have j0 : (k : Int) < (n : Int) := by omega
        obtain ⟨x, hx⟩ : ∃ x, l[k]? = some x := ⟨_, List.getElem?_eq_getElem (by rw [HL.out]; exact hlt)⟩
        obtain ⟨b, o, p, m, q, ha, hlb, _, hrg, hB5, hi⟩ := (HI.out.grow HB.out).at hx
        have hml : x.2.length = m := hB5.1.len
        have hmm := hB5.1.max
        have HX : Hid (l[k]? = some x) := hx
        have z7 : Blk (wr.alloc (.cells #[.int .i64 0, .slice none 0 0] 79)) wr.heap.size [.int .i64 0, .slice none 0 0] 79 := Blk.newAt wr _ _ wr.heap.size rfl _ rfl
        have k7 : Below wr.heap.size wr (wr.alloc (.cells #[.int .i64 0, .slice none 0 0] 79)) := below_alloc _ _
        have HE : Hid (x.2.length = m) := hml
        obtain ⟨xa, xb⟩ := x
        dsimp only at hrg hi HE
        clear hx hB5 hml
        rw [ha]
        by_cases t1 : xa < 0
        · have HBAD : Hid (chkL l = 17) := chkL_bad (by rw [HL.out]; omega) (List.mem_of_getElem? HX.out) (fun hh => by have := hh.1; dsimp only at this; omega)
          go_wp2_with (first
            | ((with_reducible refine at_ld 79 ?_); (refine ld 79 (.tmp 12) 2 sizeI _ Tryz.underlying79 rfl b (o + k * 2) [.int .i64 xa, .slice p m q] rfl hrg rfl ?_))
            | ((with_reducible refine at_st 79 ?_); (refine st' 79 (.tmp 4) (.tmp 13) 2 sizeI wr.heap.size 0 [.int .i64 xa, .slice p m q] rfl (oneI _ _ _ _) (z7.there 0 2 (by simp)) rfl rfl ?_); intro v3 hv3; have b3 : Blk v3 wr.heap.size [.int .i64 xa, .slice p m q] 79 := (by rw [hv3]; exact z7.setsW _ rfl); have k3 : Below wr.heap.size wr v3 := (by rw [hv3]; exact below_sets (Nat.le_refl _) _ k7 0); have c1 : v3.cell? ⟨wr.heap.size, 0, none⟩ = some (.int .i64 xa) := b3.cell 0; have c2 : v3.cell? ⟨wr.heap.size, 1, none⟩ = some (.slice p m q) := b3.cell 1; have l3 := b3.lt; clear hv3))
          go_ret
          exact ⟨by rw [HBAD.out]; rfl, HB.out.trans (k3.mono HB.out.size)⟩
        · by_cases t2 : 4096 ≤ xa
          · have HBAD : Hid (chkL l = 17) := chkL_bad (by rw [HL.out]; omega) (List.mem_of_getElem? HX.out) (fun hh => by have := hh.2.1; dsimp only at this; omega)
            go_wp2_with (first
              | ((with_reducible refine at_ld 79 ?_); (refine ld 79 (.tmp 12) 2 sizeI _ Tryz.underlying79 rfl b (o + k * 2) [.int .i64 xa, .slice p m q] rfl hrg rfl ?_))
              | ((with_reducible refine at_st 79 ?_); (refine st' 79 (.tmp 4) (.tmp 13) 2 sizeI wr.heap.size 0 [.int .i64 xa, .slice p m q] rfl (oneI _ _ _ _) (z7.there 0 2 (by simp)) rfl rfl ?_); intro v3 hv3; have b3 : Blk v3 wr.heap.size [.int .i64 xa, .slice p m q] 79 := (by rw [hv3]; exact z7.setsW _ rfl); have k3 : Below wr.heap.size wr v3 := (by rw [hv3]; exact below_sets (Nat.le_refl _) _ k7 0); have c1 : v3.cell? ⟨wr.heap.size, 0, none⟩ = some (.int .i64 xa) := b3.cell 0; have c2 : v3.cell? ⟨wr.heap.size, 1, none⟩ = some (.slice p m q) := b3.cell 1; have l3 := b3.lt; clear hv3))
            go_ret
            exact ⟨by rw [HBAD.out]; rfl, HB.out.trans (k3.mono HB.out.size)⟩
          · by_cases t3 : m = 512
            · subst t3
              have HN : Hid (∀ x ∈ l.take (k + 1), okI x) := chk_step HX.out HK.out ⟨by show 0 ≤ xa; omega, by show xa < 4096; omega, HE.out⟩
              go_wp2_with (first
                | ((with_reducible refine at_ld 79 ?_); (refine ld 79 (.tmp 12) 2 sizeI _ Tryz.underlying79 rfl b (o + k * 2) [.int .i64 xa, .slice p 512 q] rfl hrg rfl ?_))
                | ((with_reducible refine at_st 79 ?_); (refine st' 79 (.tmp 4) (.tmp 13) 2 sizeI wr.heap.size 0 [.int .i64 xa, .slice p 512 q] rfl (oneI _ _ _ _) (z7.there 0 2 (by simp)) rfl rfl ?_); intro v3 hv3; have b3 : Blk v3 wr.heap.size [.int .i64 xa, .slice p 512 q] 79 := (by rw [hv3]; exact z7.setsW _ rfl); have k3 : Below wr.heap.size wr v3 := (by rw [hv3]; exact below_sets (Nat.le_refl _) _ k7 0); have c1 : v3.cell? ⟨wr.heap.size, 0, none⟩ = some (.int .i64 xa) := b3.cell 0; have c2 : v3.cell? ⟨wr.heap.size, 1, none⟩ = some (.slice p 512 q) := b3.cell 1; have l3 := b3.lt; clear hv3))
              go_roundw
              case rel => exact ⟨k + 1, by omega, by go_num, HN, HB.out.trans (k3.mono HB.out.size)⟩
              case measure => simp [intOf]; omega
            · have HBAD : Hid (chkL l = 17) := chkL_bad (by rw [HL.out]; omega) (List.mem_of_getElem? HX.out) (fun hh => by have := hh.2.2; dsimp only at this; have := HE.out; omega)
              have j3 : ¬ (m : Int) = 512 := by omega
              go_wp2_with (first
                | ((with_reducible refine at_ld 79 ?_); (refine ld 79 (.tmp 12) 2 sizeI _ Tryz.underlying79 rfl b (o + k * 2) [.int .i64 xa, .slice p m q] rfl hrg rfl ?_))
                | ((with_reducible refine at_st 79 ?_); (refine st' 79 (.tmp 4) (.tmp 13) 2 sizeI wr.heap.size 0 [.int .i64 xa, .slice p m q] rfl (oneI _ _ _ _) (z7.there 0 2 (by simp)) rfl rfl ?_); intro v3 hv3; have b3 : Blk v3 wr.heap.size [.int .i64 xa, .slice p m q] 79 := (by rw [hv3]; exact z7.setsW _ rfl); have k3 : Below wr.heap.size wr v3 := (by rw [hv3]; exact below_sets (Nat.le_refl _) _ k7 0); have c1 : v3.cell? ⟨wr.heap.size, 0, none⟩ = some (.int .i64 xa) := b3.cell 0; have c2 : v3.cell? ⟨wr.heap.size, 1, none⟩ = some (.slice p m q) := b3.cell 1; have l3 := b3.lt; clear hv3))
              go_ret
              exact ⟨by rw [HBAD.out]; rfl, HB.out.trans (k3.mono HB.out.size)⟩
      · have j0 : ¬ (k : Int) < (n : Int) := by omega
        have HOK : Hid (chkL l = 0) := chkL_ok (by rw [HL.out]; omega) fun x hx => HK.out x (by rw [List.take_of_length_le (by rw [HL.out]; omega)]; exact hx)
        go_wp2_with fail
        go_ret
        exact ⟨by rw [HOK.out]; rfl, HB.out⟩

end Go.Proofs.YtlenmkhmkommcaaGreat

/-
  The contract of layer 16's program's Apply. Conditions: a disk that is not too full.
-/
namespace Go.Proofs.YtlenmkhmkommcaaGreat
open Go.RowKit
set_option linter.unusedVariables false

/-- Behind k images. -/
def ApI (U F : Nat → Prop) (w : World) (d r : Nat) (D : DskS) (mm : Nat) (l : List Chg) (k : Nat) (wr : World) : Prop := ∃ U' F' D', Dk U' F' wr d r D' ∧ D'.fit (mm + 3 * k) ∧ Next w U U' ∧ Next w F F' ∧ Kp F w wr ∧ applyD D l = applyD D' (l.drop k)
/-- What Write answers to the next one. -/
def ApW (U F : Nat → Prop) (w : World) (d r : Nat) (D : DskS) (mm : Nat) (l : List Chg) (k : Nat) (e : Ending) (w' : World) : Prop := ∃ z, e = .returned (.int .i64 z) ∧ ((z = 0 ∧ ApI U F w d r D mm l (k + 1) w') ∨ (¬ z = 0 ∧ z = (applyD D l).2 ∧ Dks U F w d r (applyD D l).1 w'))
theorem Kp.down {F F' : Nat → Prop} {w u w' : World} (h : Kp F w u) (k : Kp F' u w') (n : Next w F F') : Kp F w w' :=
  ⟨k.os.trans h.os, k.tape.trans h.tape, k.output.trans h.output, Nat.le_trans h.size k.size, fun i hi hn => (k.block i (Nat.lt_of_lt_of_le hi h.size) (fun hf => by rcases n i hf with h1 | h1; exact hn h1; omega)).trans (h.block i hi hn)⟩
theorem Next.more {w u : World} {P P' P'' : Nat → Prop} (h : Next w P P') (k : Next u P' P'') (hs : w.heap.size ≤ u.heap.size) : Next w P P'' := fun j hj => by
  rcases k j hj with h1 | h1
  · exact h j h1
  · exact Or.inr (Nat.le_trans hs h1)
theorem ApI.elem {U F A : Nat → Prop} {w wr : World} {d r : Nat} {D : DskS} {mm : Nat} {l : List Chg} {k : Nat} (h : ApI U F w d r D mm l k wr) {a : Option Addr} {n c : Nat} (hl : Imgs A w a n c l) (hA : ∀ j, A j → ¬ F j) (hm : mm + 3 * n ≤ 5000) {x : Chg} (hx : l[k]? = some x) :
    ∃ b o p m q, a = some ⟨b, o, none⟩ ∧ b < wr.heap.size ∧ wr.rangeAt b (o + k * 2) [.int .i64 x.1, .slice p m q] ∧ ∀ v, Below wr.heap.size wr v → Calls Tryz.prog 65 #[.pointer (some ⟨d, 0, none⟩), .int .i64 x.1, .slice p m q] v (ApW U F w d r D mm l k) := by
  obtain ⟨U', F', D', hd, hf, nU, nF, hk, he⟩ := h
  obtain ⟨b, o, p, m, q, ha, hlb, hAb, hrg, hB5, hi⟩ := hl.at hx
  have hlen := Sl.len hl
  have hkn : k < n := by rw [← hlen]; exact (List.getElem?_eq_some_iff.1 hx).1
  refine ⟨b, o, p, m, q, ha, Nat.lt_of_lt_of_le hlb hk.size, fun j v hj => ?_, fun v hv => ?_⟩
  · rw [World.cell?_of_block (w := w) (hk.block b hlb (hA b hAb))]
    exact hrg j v hj
  · have B1 : BA (fun j => ¬ F' j) wr p m q x.2 := BA.after (hB5.ba.mono fun j _ hj => hA j hj) hk nF
    refine (oDWrite v (hd.grows hv) hf (by omega) x.1 hi (B1.grow hv)).mono ?_
    rintro e w' ⟨rfl, U2, F2, hd2, nU2, nF2, hk2⟩
    have hkv : Kp F w v := hk.trans (Kp.of_below hv)
    have N1 : Next w U U2 := nU.more nU2 hkv.size
    have N2 : Next w F F2 := nF.more nF2 hkv.size
    have K2 : Kp F w w' := hkv.down hk2 nF
    obtain ⟨hkl, ex⟩ := List.getElem?_eq_some_iff.1 hx
    have e1 : l.drop k = x :: l.drop (k + 1) := by rw [List.drop_eq_getElem_cons hkl, ex]
    rw [e1] at he
    refine ⟨_, rfl, ?_⟩
    by_cases hz : (D'.write x.1 x.2).2 = 0
    · rw [applyD_ok hz] at he
      exact Or.inl ⟨hz, U2, F2, _, hd2, (hf.a_write x.1 x.2).a_mono (by omega), N1, N2, K2, he⟩
    · rw [applyD_not hz] at he
      rw [he]
      exact Or.inr ⟨hz, rfl, U2, F2, hd2, N1, N2, K2⟩
theorem ApI.done {U F : Nat → Prop} {w wr : World} {d r : Nat} {D : DskS} {mm : Nat} {l : List Chg} {k : Nat} (h : ApI U F w d r D mm l k wr) (hk : l.length ≤ k) (hm : mm + 3 * k ≤ 5000) : Calls Tryz.prog 66 #[.pointer (some ⟨d, 0, none⟩)] wr fun e w' => e = .returned (.int .i64 (applyD D l).2) ∧ Dks U F w d r (applyD D l).1 w' := by
  obtain ⟨U', F', D', hd, hf, nU, nF, hk', he⟩ := h
  rw [List.drop_of_length_le hk, applyD_nil] at he
  rw [he]
  refine (oDFlush wr hd hf (by omega)).mono ?_
  rintro e w' ⟨rfl, U2, F2, hd2, nU2, nF2, hk2⟩
  exact ⟨rfl, U2, F2, hd2, nU.more nU2 hk'.size, nF.more nF2 hk'.size, hk'.down hk2 nF⟩
theorem ApI.start {U F : Nat → Prop} {w : World} {d r : Nat} {D : DskS} (h : Dk U F w d r D) {mm : Nat} (hf : D.fit mm) (l : List Chg) : ApI U F w d r D mm l 0 w := ⟨U, F, D, h, hf, Next.refl _ _, Next.refl _ _, Kp.refl _ _, rfl⟩

set_option maxRecDepth 100000 in
set_option maxHeartbeats 2000000 in
theorem oApply16 (w : World) {U F A : Nat → Prop} {d r : Nat} {D : DskS} (h : Dk U F w d r D) {mm : Nat} (hf : D.fit mm) {a : Option Addr} {n c : Nat} {l : List Chg} (hl : Imgs A w a n c l) (hA : ∀ j, A j → ¬ F j) (hm : mm + 3 * n ≤ 5000) :
    Calls Tryz.prog 27 #[.pointer (some ⟨d, 0, none⟩), .slice a n c] w fun e w' => e = .returned (.int .i64 (applyD D l).2) ∧ Dks U F w d r (applyD D l).1 w' := by
  have HI : Hid (Imgs A w a n c l) := hl
  have HL : Hid (l.length = n) := Sl.len hl
  have HA : Hid (∀ j, A j → ¬ F j) := hA
  have HM : Hid (mm + 3 * n ≤ 5000) := hm
  have hmax := Sl.cap hl
  have HAP : Hid (ApI U F w d r D mm l 0 w) := ApI.start h hf l
  have hn5 : n ≤ 5000 := by omega
  clear hl hA h hf hm
  go_enter Tryz.func27, Tryz.ntmps27
  go_wp2_with fail
  go_loopw [12] (fun i wr => ∃ k : Nat, k ≤ n ∧ i = .int .i64 (k : Int) ∧ Hid (ApI U F w d r D mm l k wr)) (fun i _ => n - (intOf i).toNat)
  case atStart => exact ⟨0, Nat.zero_le _, rfl, HAP⟩
  case round =>
    obtain ⟨k, hk, rfl, HK⟩ := hrel
    clear HAP
    by_cases hlt : k < n
    · have j0 : (k : Int) < (n : Int) := by omega
      obtain ⟨x, hx⟩ : ∃ x, l[k]? = some x := ⟨_, List.getElem?_eq_getElem (by rw [HL.out]; exact hlt)⟩
      obtain ⟨b, o, p, m, q, ha, hlb, hrg, hC⟩ := HK.out.elem HI.out HA.out HM.out hx
      obtain ⟨xa, xb⟩ := x
      dsimp only at hrg hC
      have HC : Hid (∀ v, Below wr.heap.size wr v → Calls Tryz.prog 65 #[.pointer (some ⟨d, 0, none⟩), .int .i64 xa, .slice p m q] v (ApW U F w d r D mm l k)) := hC
      clear hx hC
      rw [ha]
      have z7 : Blk (wr.alloc (.cells #[.int .i64 0, .slice none 0 0] 79)) wr.heap.size [.int .i64 0, .slice none 0 0] 79 := Blk.newAt wr _ _ wr.heap.size rfl _ rfl
      have k7 : Below wr.heap.size wr (wr.alloc (.cells #[.int .i64 0, .slice none 0 0] 79)) := below_alloc _ _
      go_wp2_with (first
        | ((with_reducible refine at_ld 79 ?_); (refine ld 79 (.tmp 14) 2 sizeI _ Tryz.underlying79 rfl b (o + k * 2) [.int .i64 xa, .slice p m q] rfl hrg rfl ?_))
        | ((with_reducible refine at_st 79 ?_); (refine st' 79 (.tmp 6) (.tmp 15) 2 sizeI wr.heap.size 0 [.int .i64 xa, .slice p m q] rfl (oneI _ _ _ _) (z7.there 0 2 (by simp)) rfl rfl ?_); intro v3 hv3; have b3 : Blk v3 wr.heap.size [.int .i64 xa, .slice p m q] 79 := (by rw [hv3]; exact z7.setsW _ rfl); have k3 : Below wr.heap.size wr v3 := (by rw [hv3]; exact below_sets (Nat.le_refl _) _ k7 0); have c1 : v3.cell? ⟨wr.heap.size, 0, none⟩ = some (.int .i64 xa) := b3.cell 0; have c2 : v3.cell? ⟨wr.heap.size, 1, none⟩ = some (.slice p m q) := b3.cell 1; have l3 := b3.lt; clear hv3))
      refine (HC.out v3 k3).mono ?_
      rintro e w4 ⟨z, rfl, hz⟩
      have HZ : Hid ((z = 0 ∧ ApI U F w d r D mm l (k + 1) w4) ∨ (¬ z = 0 ∧ z = (applyD D l).2 ∧ Dks U F w d r (applyD D l).1 w4)) := hz
      clear c1 c2 l3 b3 k3 z7 k7 hrg HC hz HK
      by_cases z0 : z = 0
      · subst z0
        have HN : Hid (ApI U F w d r D mm l (k + 1) w4) := by rcases HZ.out with h | h; exact h.2; exact absurd rfl h.1
        clear HZ
        go_wp2_with fail
        go_roundw
        case rel => exact ⟨k + 1, by omega, by go_num, HN⟩
        case measure => simp [intOf]; omega
      · have HN : Hid (z = (applyD D l).2 ∧ Dks U F w d r (applyD D l).1 w4) := by rcases HZ.out with h | h; exact absurd h.1 z0; exact h.2
        clear HZ
        go_wp2_with fail
        go_ret
        exact ⟨by rw [← HN.out.1]; rfl, HN.out.2⟩
    · have j0 : ¬ (k : Int) < (n : Int) := by omega
      go_wp2_with fail
      refine (HK.out.done (by rw [HL.out]; omega) (by have := HM.out; omega)).mono ?_
      rintro e w4 ⟨rfl, hd⟩
      have HD : Hid (Dks U F w d r (applyD D l).1 w4) := hd
      clear hd HK
      go_wp2_with fail
      go_ret
      exact ⟨rfl, HD.out⟩

end Go.Proofs.YtlenmkhmkommcaaGreat

/-
  The contract of Short. No condition but that lengths fit.
-/
namespace Go.Proofs.YtlenmkhmkommcaaGreat
open Go.RowKit

end Go.Proofs.YtlenmkhmkommcaaGreat

/-
  The contracts of the reference's Pack and SameAll, and of Short. Conditions: of Pack as of the program's; of the others none.
-/
namespace Go.Proofs.YtlenmkhmkommcaaGreat
open Go.RowKit

set_option maxHeartbeats 400000 in
theorem rPack (w : World) {a : Option Addr} {n c : Nat} {ls : List (List UInt8)} (ha : Bss w a n c ls) (hz : tot ls ≤ 100000) (hn : n ≤ 100000) :
    Calls Tryz.prog 77 #[.slice a n c] w (Gives w (packL ls)) := by
  by_cases h0 : n = 0
  · subst h0
    have e : ls = [] := List.length_eq_zero_iff.1 ha.len
    subst e
    clear ha
    go_enter Tryz.func77, Tryz.ntmps77
    go_wp2_with fail
    refine wp_loop_rounds 1 ?_; rw [rounds_succ]; go_wp2
    go_ret
    exact Gives.mk (Own.nil _ _) (Below.refl _ _)
  · obtain ⟨x, o, rfl, hx, hc⟩ := ha.at (by omega)
    have H : Hid (ls.length = n) := ha.len
    clear ha
    go_enter Tryz.func77, Tryz.ntmps77
    go_wp2_with fail
    go_loopw [3, 4] (fun v i wr => ∃ k : Nat, k ≤ n ∧ i = .int .i64 k ∧ Own wr w.heap.size v (packL (ls.take k)) ∧ Below w.heap.size w wr) (fun _ i _ => n - (intOf i).toNat)
    case atStart => exact ⟨0, Nat.zero_le _, rfl, Own.nil _ _, Below.refl _ _⟩
    case round =>
      obtain ⟨k, hk, rfl, ho, hb⟩ := hrel
      by_cases hlt : k < n
      · obtain ⟨p, m, q, c1, hp⟩ := Bss.part hc hb k hlt
        obtain ⟨r0, r1, r2⟩ := pack_room (by rw [H.out]; exact hlt) hp.len hz (by rw [H.out]; exact hn)
        have hs := hb.size
        have HS : Hid (packL (ls.take k) ++ putL m 4 ++ ls.getD k [] = packL (ls.take (k + 1))) := pack_step (by rw [H.out]; exact hlt) hp.len
        have hP := rPut 4 (m : Int) 4 wr (by omega) (by omega) (by omega) (by omega) (by omega)
        rw [Int.toNat_natCast, show (4 : Int).toNat = 4 from rfl] at hP
        have HP : Hid (Calls Tryz.prog 76 #[.int .u64 (m : Int), .int .i64 4] wr (Gives wr (putL m 4))) := hP
        clear hP
        have hC : ∀ w1, Below wr.heap.size wr w1 → ∀ w2, Below w.heap.size w1 w2 → w2.cell? ⟨x, o + k, none⟩ = some (.slice p m q) := fun w1 h1 w2 h2 => by
          rw [h2.cell (p := ⟨x, o + k, none⟩) hx, h1.cell (p := ⟨x, o + k, none⟩) (by simp; omega)]; exact c1
        have HC : Hid (∀ w1, Below wr.heap.size wr w1 → ∀ w2, Below w.heap.size w1 w2 → w2.cell? ⟨x, o + k, none⟩ = some (.slice p m q)) := hC
        clear hC
        go_wp2_with (first | (go_at_call 76; refine HP.out.mono ?_; rintro e w1 ⟨a1, m1, c1', rfl, ho1, hb1⟩) | (at_builtin; refine wpList_app _ rfl (.tmp 11) (.tmp 18) rfl w.heap.size _ _ rfl (ho.below hb1 (Nat.le_refl _)) _ _ _ _ rfl ho1.toBs r1 (Nat.le_trans hs hb1.size) ?_; intro v2 w2 ho2 hb2; have c2 := HC.out w1 hb1 w2 hb2) | (at_builtin; refine wpList_app _ rfl (.tmp 20) (.tmp 24) rfl w.heap.size _ _ rfl ho2 _ _ _ _ rfl (hp.below (hb.trans ((hb1.mono hs).trans hb2)) (Nat.le_refl _)) r2 (Nat.le_trans (Nat.le_trans hs hb1.size) hb2.size) ?_; intro v3 w3 ho3 hb3))
        go_roundw
        case rel => exact ⟨k + 1, by omega, by go_num, by rw [← HS.out]; exact ho3, hb.trans (((hb1.mono hs).trans hb2).trans hb3)⟩
        case measure => simp [intOf]; omega
      · go_wp2
        go_ret
        exact Gives.mk (pack_end H hlt ho) hb

end Go.Proofs.YtlenmkhmkommcaaGreat

/-
  The contract of the program's Same. No condition.
-/
namespace Go.Proofs.YtlenmkhmkommcaaGreat
open Go.RowKit

end Go.Proofs.YtlenmkhmkommcaaGreat

/-
  The contract of the reference's Xor. Condition: rows of at most 1000000 bytes.
-/
namespace Go.Proofs.YtlenmkhmkommcaaGreat
open Go.RowKit

end Go.Proofs.YtlenmkhmkommcaaGreat

/-
  What layer 1's laws ask of Same and Xor, together. No condition; no statement of the seat is proved here.
-/
namespace Go.Proofs.YtlenmkhmkommcaaGreat

end Go.Proofs.YtlenmkhmkommcaaGreat
