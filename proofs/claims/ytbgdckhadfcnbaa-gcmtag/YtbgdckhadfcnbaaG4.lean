/-
  8 texts in one. No statement of the seat is proved here.
-/
import Derived.Test.YtbgdckhadfcnbaaG3
import Derived.Laws.CopyOwn
/-
  The contract of layer 5's reference's Hash. Condition: rows of 128 bits; at most 1000 bytes.
-/
namespace Go.Proofs.Ytbgdckhadfcnbaa
open Go.RowKit

/-- Behind so many blocks of sixteen bytes. -/
def hsh (h f : Fe) (l : List UInt8) : Nat → Fe
  | 0 => f
  | k + 1 => fmul (hsh h f l k ^^^ feB ((l.drop (16 * k)).take 16)) h
/-- All blocks. -/
def hashF (h f : Fe) (l : List UInt8) : Fe := hsh h f l ((l.length + 15) / 16)
/-- What a call that hands back bools leaves. -/
def HasB (w : World) (l : List Bool) (e : Ending) (w' : World) : Prop := ∃ a c, e = .returned (.slice a l.length c) ∧ Bo w' a l.length c l ∧ Below w.heap.size w w'
theorem take16 (l : List UInt8) {j t n : Nat} (hl : l.length = n) (ht : t = min (j + 16) n) : (l.drop j).take (t - j) = (l.drop j).take 16 := by
  by_cases h : j + 16 ≤ n
  · rw [show t - j = 16 from by omega]
  · rw [List.take_of_length_le (by rw [List.length_drop, hl]; omega), List.take_of_length_le (by rw [List.length_drop, hl]; omega)]

set_option maxRecDepth 100000 in
set_option maxHeartbeats 4000000 in
theorem rHash (w : World) {ph pf pb : Option Addr} {ch cf cb n : Nat} {h f : Fe} {l : List UInt8} (hh : Bo w ph 128 ch (fb h)) (hf : Bo w pf 128 cf (fb f)) (hb : Bs w pb n cb l) (hn : n ≤ 1000) :
    Calls Try.prog 53 #[.slice ph 128 ch, .slice pf 128 cf, .slice pb n cb] w (HasB w (fb (hashF h f l))) := by
  have HL : Hid (l.length = n) := hb.len
  go_enter Try.func53, Try.ntmps53
  go_wp2_with fail
  go_loopw [7, 8, 9, 10, 11, 12] (fun v i _ _ _ _ wr => ∃ (k j : Nat) (py : Option Addr) (cy : Nat), j = 16 * k ∧ j < n + 16 ∧ i = .int .i64 (j : Int) ∧ v = .slice py 128 cy ∧ Bo wr py 128 cy (fb (hsh h f l k)) ∧ Below w.heap.size w wr) (fun _ i _ _ _ _ _ => n + 16 - (intOf i).toNat)
  case atStart => exact ⟨0, 0, pf, cf, rfl, by omega, rfl, rfl, hf, Below.refl _ _⟩
  case round =>
    obtain ⟨k, j, py, cy, hj, hjn, rfl, rfl, hBy, hbw⟩ := hrel
    rename World => wo
    have HJ : Hid (j = 16 * k) := hj
    clear hj
    by_cases hlt : j < n
    · have j0 : (0 : Int) ≤ (j : Int) := by omega
      have j1 : (j : Int) < (n : Int) := by omega
      have jn : (n : Int) ≤ 1000 := by omega
      obtain ⟨t, ht⟩ : ∃ t, t = min (j + 16) n := ⟨_, rfl⟩
      have ht1 : j ≤ t := by omega
      have ht2 : t ≤ n := by omega
      have ht3 : t - j ≤ 16 := by omega
      obtain ⟨p, q, hcut2, hB2⟩ := hb.cut2 j t ht1 ht2
      have HE := take16 l (j := j) HL.out ht
      obtain ⟨y, hy⟩ : ∃ y, y = hsh h f l k := ⟨_, rfl⟩
      rw [← hy] at hBy
      have HN : Hid (hsh h f l (k + 1) = fmul (y ^^^ feB ((l.drop j).take 16)) h) := by show _ = _; rw [hy, HJ.out]; rfl
      have HTT : Hid (t = min (j + 16) n) := ht
      clear hy ht
      go_upto_if 25 with fail
      go_cut [9] (fun v wx => v = .int .i64 (t : Int) ∧ wx = wo)
      case first =>
        by_cases hbig : (j : Int) + 16 ≤ (n : Int)
        · have e : Hid ((j : Int) + 16 = (t : Int)) := by show _ = _; have := HTT.out; omega
          go_wp2_with fail
          go_meet
          case rel => exact ⟨by rw [e.out], rfl⟩
        · have e : Hid ((n : Int) = (t : Int)) := by show _ = _; have := HTT.out; omega
          go_wp2_with fail
          go_meet
          case rel => exact ⟨by rw [e.out], rfl⟩
      case rest =>
        obtain ⟨rfl, rfl⟩ := hcut
        have hB3 := hB2 wc (hb.below hbw (Nat.le_refl _))
        rw [HE] at hB3
        have tj0 : (j : Int) ≤ (t : Int) := by omega
        have tn : (t : Int) ≤ (n : Int) := by omega
        clear hB2 HE
        generalize (l.drop j).take 16 = X at *
        obtain ⟨u, hu⟩ : ∃ u, u = t - j := ⟨_, rfl⟩
        rw [← hu] at hcut2 hB3 ht3
        clear hu
        go_wp2_with fail
        refine (rBits wc hB3 ht3).mono ?_
        rintro e w1 ⟨ax, cx, rfl, hBx, hxn, hb1⟩
        rw [fb_length] at hBx ⊢
        have q1 := hbw.trans (hb1.mono hbw.size)
        have hBy1 := hBy.below hb1 (Nat.le_refl _)
        generalize feB X = x at *
        go_wp2_with (at_make; go_must (refine wpList_bmk w1 rfl _ _ rfl 128 _ rfl rfl rfl (by omega) ?_); intro g w2 hg bG hb2)
        have q2 := q1.trans (hb2.mono q1.size)
        have hBy2 := hBy1.below hb2 (Nat.le_refl _)
        have hBx2 := hBx.below hb2 (Nat.le_refl _)
        obtain ⟨by', oy, rfl, hyl, _⟩ := hBy1.at (by omega)
        obtain ⟨bx, ox, rfl, hxl, _⟩ := hBx.at (by omega)
        have hyg : ¬ by' = g := by omega
        have hxg : ¬ bx = g := by omega
        have hyg' : ¬ g = by' := by omega
        have hxg' : ¬ g = bx := by omega
        have hgw : w.heap.size ≤ g := Nat.le_trans q1.size hg
        clear hBy hBy1 hBx hb1 hb2 hbw q1 hB3
        go_loopw [12] (fun kk wr => ∃ k : Nat, k ≤ 128 ∧ kk = .int .i64 k ∧ Bo wr (some ⟨by', oy, none⟩) 128 cy (fb y) ∧ Bo wr (some ⟨bx, ox, none⟩) 128 cx (fb x) ∧ Blk wr g (bo (overB (fb (y ^^^ x)) (List.replicate 128 false) k)) 4 ∧ Below w.heap.size w wr) (fun kk _ => 128 - (intOf kk).toNat)
        case atStart => exact ⟨0, by omega, rfl, hBy2, hBx2, by rw [overB_zero]; exact bG, q2⟩
        case round =>
          clear hBy2 hBx2 bG q2
          obtain ⟨i, hi, rfl, hBy, hBx, bG, hbk⟩ := hrel
          have hll : (fb (y ^^^ x)).length = (List.replicate 128 false).length := by rw [fb_length, rep_length]
          by_cases hil : i < 128
          · have i0 : (0 : Int) ≤ (i : Int) := by omega
            have i8 : (i : Int) < 128 := by omega
            obtain ⟨_, _, ex, _, hcy⟩ := hBy.at (by omega)
            simp only [Option.some.injEq, Addr.mk.injEq, and_true] at ex
            obtain ⟨rfl, rfl⟩ := ex
            obtain ⟨_, _, ex, _, hcx⟩ := hBx.at (by omega)
            simp only [Option.some.injEq, Addr.mk.injEq, and_true] at ex
            obtain ⟨rfl, rfl⟩ := ex
            have d1 := hcy i hil
            have d2 := hcx i hil
            rw [fb_at _ hil] at d1 d2
            have d3 := bG.atB (k := i) (by rw [overB_length hll, rep_length]; exact hil)
            have f3 := bG.free i
            have bN := bG.setB i ((fb (y ^^^ x)).getD i false)
            rw [overB_set hll (by rw [rep_length]; exact hil), fb_xor_at y x hil] at bN
            generalize y.getLsbD i = yi at d1 bN
            generalize x.getLsbD i = xi at d2 bN
            have BN : Hid _ := bN
            clear bN hcx hcy
            go_wp2_with fail
            go_region
            go_wp2_with fail
            go_roundw
            case rel => exact ⟨i + 1, by omega, by go_num, (hBy.setO (p := ⟨g, i, none⟩) (fun z hz => by simp only [Option.some.injEq] at hz; subst hz; exact hyg) _).dr, (hBx.setO (p := ⟨g, i, none⟩) (fun z hz => by simp only [Option.some.injEq] at hz; subst hz; exact hxg) _).dr, BN.out, (hbk.setCell (by simpa using hgw) _).drew⟩
            case measure => simp [intOf]; omega
          · obtain rfl : i = 128 := by omega
            have hend := overB_end hll
            rw [rep_length] at hend
            rw [hend] at bG
            have hBz := bG.bo (by rw [fb_length]; omega)
            rw [fb_length] at hBz
            go_wp2_with fail
            refine (rTimesF wr hBz (hh.below hbk (Nat.le_refl _))).mono ?_
            rintro e w5 ⟨a5, c5, rfl, hB5, _, hb5⟩
            rw [fb_length] at hB5 ⊢
            rw [← HN.out] at hB5
            have q5 := hbk.trans (hb5.mono hbk.size)
            go_wp2_with fail
            go_roundw
            case rel => exact ⟨k + 1, j + 16, a5, c5, by have := HJ.out; omega, by omega, by go_num, rfl, hB5, q5⟩
            case measure => simp [intOf]; omega
    · have HN : Hid (hashF h f l = hsh h f l k) := by
        show _ = _
        unfold hashF
        rw [HL.out]
        congr 1
        have := HJ.out
        omega
      go_wp2_with fail
      go_ret
      refine ⟨py, cy, by rw [fb_length]; rfl, ?_, hbw⟩
      rw [fb_length, HN.out]
      exact hBy

end Go.Proofs.Ytbgdckhadfcnbaa

/-
  An element's bytes and back: plain mathematics ahead of layer 5's code. No condition but sixteen bytes; nothing of the program.
-/
namespace Go.Proofs.Ytbgdckhadfcnbaa
open Go.RowKit

/-- Bit s of a byte, the highest first. -/
def bitH (b : UInt8) (s : Nat) : Bool := decide ((b >>> UInt8.ofNat (7 - s)) &&& 1 = 1)
theorem bitH_or (b : UInt8) {s t : Nat} (hs : s < 8) (ht : t < 8) : bitH (b ||| (1 <<< UInt8.ofNat (7 - s))) t = (bitH b t || decide (s = t)) := by
  have : ∀ i : Fin 256, ∀ s t : Fin 8, bitH (UInt8.ofNat i.val ||| (1 <<< UInt8.ofNat (7 - s.val))) t.val = (bitH (UInt8.ofNat i.val) t.val || decide (s.val = t.val)) := by decide +kernel
  have h := this ⟨b.toNat, b.toNat_lt⟩ ⟨s, hs⟩ ⟨t, ht⟩
  simpa using h
theorem bitH_zero {s : Nat} (hs : s < 8) : bitH 0 s = false := by
  have : ∀ s : Fin 8, bitH 0 s.val = false := by decide +kernel
  exact this ⟨s, hs⟩
def bitsH (f : Nat → Bool) : UInt8 := UInt8.ofNat ((List.range 8).foldl (fun n s => 2 * n + (f s).toNat) 0)
theorem bitH_all (b : UInt8) : bitsH (bitH b) = b := by
  have : ∀ i : Fin 256, bitsH (bitH (UInt8.ofNat i.val)) = UInt8.ofNat i.val := by decide +kernel
  have h := this ⟨b.toNat, b.toNat_lt⟩
  simpa using h
theorem bitH_ext {b c : UInt8} (h : ∀ s, s < 8 → bitH b s = bitH c s) : b = c := by
  rw [← bitH_all b, ← bitH_all c]
  unfold bitsH
  simp only [List.range, List.range.loop, List.foldl, h 0 (by omega), h 1 (by omega), h 2 (by omega), h 3 (by omega), h 4 (by omega), h 5 (by omega), h 6 (by omega), h 7 (by omega)]
theorem bitB_H {l : List UInt8} {i : Nat} (h : i / 8 < l.length) : bitB l i = bitH (l.getD (i / 8) 0) (i % 8) := by
  unfold bitB bitH
  simp only [h, decide_true, Bool.true_and]
theorem byS_bit (a : Fe) (n : Nat) (hn : n ≤ 128) {i : Nat} (hi : i < 128) : bitH ((byS a n).getD (i / 8) 0) (i % 8) = (decide (i < n) && a.getLsbD i) := by
  induction n with
  | zero =>
    have : (byS a 0).getD (i / 8) 0 = 0 := by
      have : ∀ j : Fin 16, (List.replicate 16 (0 : UInt8)).getD j.val 0 = 0 := by decide +kernel
      exact this ⟨i / 8, by omega⟩
    rw [this, bitH_zero (by omega)]
    simp
  | succ n ih =>
    have ih := ih (by omega)
    rw [byS]
    have hlen := byS_length a n
    cases hb : a.getLsbD n with
    | false =>
      simp only [Bool.false_eq_true, if_false]
      rw [ih]
      by_cases e : i = n
      · subst e; rw [hb]; simp
      · by_cases hl : i < n
        · have : i < n + 1 := by omega
          simp [hl, this]
        · have : ¬ i < n + 1 := by omega
          simp [hl, this]
    | true =>
      simp only [if_true]
      by_cases q : i / 8 = n / 8
      · rw [q] at ih ⊢
        have hq : n / 8 < (byS a n).length := by omega
        rw [show ((byS a n).set (n / 8) ((byS a n).getD (n / 8) 0 ||| 1 <<< UInt8.ofNat (7 - n % 8))).getD (n / 8) 0 = (byS a n).getD (n / 8) 0 ||| 1 <<< UInt8.ofNat (7 - n % 8) from by
          rw [List.getD_eq_getElem?_getD, List.getElem?_set_self hq]; rfl]
        rw [bitH_or _ (by omega) (by omega), ih]
        by_cases e : i = n
        · subst e; rw [hb]; simp
        · have m : ¬ n % 8 = i % 8 := by omega
          by_cases hl : i < n
          · have : i < n + 1 := by omega
            simp [hl, this, m]
          · have : ¬ i < n + 1 := by omega
            simp [hl, this, m]
      · rw [show ((byS a n).set (n / 8) ((byS a n).getD (n / 8) 0 ||| 1 <<< UInt8.ofNat (7 - n % 8))).getD (i / 8) 0 = (byS a n).getD (i / 8) 0 from by
          rw [List.getD_eq_getElem?_getD, List.getElem?_set_ne (by omega), List.getD_eq_getElem?_getD]]
        rw [ih]
        have e : ¬ i = n := by intro e; exact q (by rw [e])
        by_cases hl : i < n
        · have : i < n + 1 := by omega
          simp [hl, this]
        · have : ¬ i < n + 1 := by omega
          simp [hl, this]
theorem byF_length (a : Fe) : (byF a).length = 16 := byS_length a 128
theorem byF_bit (a : Fe) {i : Nat} (hi : i < 128) : bitB (byF a) i = a.getLsbD i := by
  rw [bitB_H (by rw [byF_length]; omega)]
  unfold byF
  rw [byS_bit a 128 (Nat.le_refl _) hi]
  simp [hi]
theorem feB_bit (l : List UInt8) {i : Nat} (hi : i < 128) : (feB l).getLsbD i = bitB l i := by
  unfold feB
  rw [pk_bits _ 128 (Nat.le_refl _)]
  simp [hi]
/-- An element out of its own bytes. -/
theorem feB_byF (a : Fe) : feB (byF a) = a := by
  apply BitVec.eq_of_getLsbD_eq
  intro i hi
  rw [feB_bit _ hi, byF_bit _ hi]
/-- Sixteen bytes out of their own element. -/
theorem byF_feB {l : List UInt8} (hl : l.length = 16) : byF (feB l) = l := by
  apply List.ext_getElem (by rw [byF_length, hl])
  intro j h1 h2
  apply bitH_ext
  intro s hs
  have hj : j < 16 := by omega
  have e1 := byF_bit (feB l) (i := 8 * j + s) (by omega)
  rw [feB_bit _ (by omega), bitB_H (by rw [byF_length]; omega), bitB_H (by omega), show (8 * j + s) / 8 = j from by omega, show (8 * j + s) % 8 = s from by omega] at e1
  simpa [List.getD_eq_getElem?_getD, List.getElem?_eq_getElem h1, List.getElem?_eq_getElem h2] using e1
theorem feB_inj {l m : List UInt8} (hl : l.length = 16) (hm : m.length = 16) (h : feB l = feB m) : l = m := by rw [← byF_feB hl, ← byF_feB hm, h]
theorem byF_inj {a b : Fe} (h : byF a = byF b) : a = b := by rw [← feB_byF a, ← feB_byF b, h]

end Go.Proofs.Ytbgdckhadfcnbaa

/-
  Elements as two words of 64 bits, the first bit the highest: what a shift down is, what a table of sixteen products gives, four bits at a time. Plain mathematics; no condition; nothing of the program.
-/
namespace Go.Proofs.Ytbgdckhadfcnbaa

theorem txN_xor (n : Nat) (a b : Fe) : txN (a ^^^ b) n = txN a n ^^^ txN b n := txN_adds n a b
/-- Two maps that go part by part are the same if they are on each power of x. -/
theorem basis {n : Nat} (g k : Fe → BitVec n) (hg : ∀ a b, g (a ^^^ b) = g a ^^^ g b) (hk : ∀ a b, k (a ^^^ b) = k a ^^^ k b) (hb : ∀ i : Fin 128, g ((1 : Fe) <<< i.val) = k ((1 : Fe) <<< i.val)) (a : Fe) : g a = k a := by
  have g0 : g 0 = 0 := by
    have := hg 0 0
    rw [fx_self] at this
    rw [this]
    exact BitVec.xor_self
  have k0 : k 0 = 0 := by
    have := hk 0 0
    rw [fx_self] at this
    rw [this]
    exact BitVec.xor_self
  have : ∀ m, m ≤ 128 → g (lin a (fun i => (1 : Fe) <<< i) m) = k (lin a (fun i => (1 : Fe) <<< i) m) := by
    intro m
    induction m with
    | zero => intro _; show g 0 = k 0; rw [g0, k0]
    | succ m ih =>
      intro hm
      rw [lin, hg, hk, ih (by omega)]
      cases a.getLsbD m
      · simp only [Bool.false_eq_true, if_false]
        rw [g0, k0]
      · simp only [if_true]
        exact congrArg _ (hb ⟨m, by omega⟩)
  have := this 128 (Nat.le_refl _)
  rw [lin_self] at this
  exact this

/-- An element read from its other end: the first bit the highest. -/
def rv (a : Fe) : Fe := lin a (fun i => (1 : Fe) <<< (127 - i)) 128
theorem rv_adds (a b : Fe) : rv (a ^^^ b) = rv a ^^^ rv b := lin_left _ _ a b
theorem rv_bits (a : Fe) (n : Nat) (hn : n ≤ 128) {j : Nat} (hj : j < 128) : (lin a (fun i => (1 : Fe) <<< (127 - i)) n).getLsbD j = (decide (127 - j < n) && a.getLsbD (127 - j)) := by
  induction n with
  | zero => simp [lin]
  | succ n ih =>
    rw [lin, BitVec.getLsbD_xor, ih (by omega), one_bit (by omega)]
    by_cases e : 127 - j = n
    · have e2 : j = 127 - n := by omega
      subst e2
      rw [show 127 - (127 - n) = n from by omega]
      simp
    · have e2 : ¬ j = 127 - n := by omega
      by_cases hl : 127 - j < n
      · have : 127 - j < n + 1 := by omega
        simp [hl, e2, this]
      · have : ¬ 127 - j < n + 1 := by omega
        simp [hl, e2, this]
theorem rv_bit (a : Fe) {j : Nat} (hj : j < 128) : (rv a).getLsbD j = a.getLsbD (127 - j) := by
  unfold rv
  rw [rv_bits a 128 (Nat.le_refl _) hj]
  have : 127 - j < 128 := by omega
  simp [this]

/-- Its two words. -/
def hB (a : Fe) : BitVec 64 := (rv a).extractLsb' 64 64
def lB (a : Fe) : BitVec 64 := (rv a).extractLsb' 0 64
theorem hB_bit (a : Fe) {i : Nat} (hi : i < 64) : (hB a).getLsbD i = a.getLsbD (63 - i) := by
  unfold hB
  rw [BitVec.getLsbD_extractLsb', rv_bit a (by omega), show 127 - (64 + i) = 63 - i from by omega]
  simp [hi]
theorem lB_bit (a : Fe) {i : Nat} (hi : i < 64) : (lB a).getLsbD i = a.getLsbD (127 - i) := by
  unfold lB
  rw [BitVec.getLsbD_extractLsb', rv_bit a (by omega), show 127 - (0 + i) = 127 - i from by omega]
  simp [hi]
theorem hB_xor (a b : Fe) : hB (a ^^^ b) = hB a ^^^ hB b := by
  apply BitVec.eq_of_getLsbD_eq
  intro i hi
  rw [hB_bit _ hi, BitVec.getLsbD_xor, BitVec.getLsbD_xor, hB_bit _ hi, hB_bit _ hi]
theorem lB_xor (a b : Fe) : lB (a ^^^ b) = lB a ^^^ lB b := by
  apply BitVec.eq_of_getLsbD_eq
  intro i hi
  rw [lB_bit _ hi, BitVec.getLsbD_xor, BitVec.getLsbD_xor, lB_bit _ hi, lB_bit _ hi]
theorem words_ext {a b : Fe} (h : hB a = hB b) (l : lB a = lB b) : a = b := by
  apply BitVec.eq_of_getLsbD_eq
  intro i hi
  by_cases hl : i < 64
  · have e := hB_bit a (i := 63 - i) (by omega)
    have f := hB_bit b (i := 63 - i) (by omega)
    rw [show 63 - (63 - i) = i from by omega] at e f
    rw [← e, ← f, h]
  · have e := lB_bit a (i := 127 - i) (by omega)
    have f := lB_bit b (i := 127 - i) (by omega)
    rw [show 127 - (127 - i) = i from by omega] at e f
    rw [← e, ← f, l]
theorem hB_zero : hB 0 = 0 := by decide +kernel
theorem lB_zero : lB 0 = 0 := by decide +kernel

/-- Times x^k, word by word. -/
def rsO (k : Nat) (l : BitVec 64) : BitVec 64 := l <<< (64 - k)
def rsH (k : Nat) (h l : BitVec 64) : BitVec 64 := (h >>> k) ^^^ rsO k l ^^^ (rsO k l >>> 1) ^^^ (rsO k l >>> 2) ^^^ (rsO k l >>> 7)
def rsL (k : Nat) (h l : BitVec 64) : BitVec 64 := (l >>> k) ^^^ (h <<< (64 - k))
theorem w_four (a b c d : BitVec 64) : (a ^^^ b) ^^^ (c ^^^ d) = (a ^^^ c) ^^^ (b ^^^ d) := by
  rw [BitVec.xor_assoc, BitVec.xor_assoc, ← BitVec.xor_assoc b c d, BitVec.xor_comm b c, BitVec.xor_assoc c b d]
theorem rsO_xor (k : Nat) (l m : BitVec 64) : rsO k (l ^^^ m) = rsO k l ^^^ rsO k m := BitVec.shiftLeft_xor_distrib _ _ _
theorem rsH_xor (k : Nat) (h i l m : BitVec 64) : rsH k (h ^^^ i) (l ^^^ m) = rsH k h l ^^^ rsH k i m := by
  unfold rsH
  rw [rsO_xor, BitVec.ushiftRight_xor_distrib, BitVec.ushiftRight_xor_distrib, BitVec.ushiftRight_xor_distrib, BitVec.ushiftRight_xor_distrib, w_four (h >>> k), w_four (h >>> k ^^^ rsO k l), w_four (h >>> k ^^^ rsO k l ^^^ rsO k l >>> 1), w_four (h >>> k ^^^ rsO k l ^^^ rsO k l >>> 1 ^^^ rsO k l >>> 2)]
theorem rsL_xor (k : Nat) (h i l m : BitVec 64) : rsL k (h ^^^ i) (l ^^^ m) = rsL k h l ^^^ rsL k i m := by
  unfold rsL
  rw [BitVec.ushiftRight_xor_distrib, BitVec.shiftLeft_xor_distrib, w_four]
theorem rsH_1 (a : Fe) : hB (txN a 1) = rsH 1 (hB a) (lB a) :=
  basis (fun a => hB (txN a 1)) (fun a => rsH 1 (hB a) (lB a)) (fun a b => by show hB (txN (a ^^^ b) 1) = _; rw [txN_xor, hB_xor]) (fun a b => by show rsH 1 (hB (a ^^^ b)) (lB (a ^^^ b)) = _; rw [hB_xor, lB_xor, rsH_xor]) (by decide +kernel) a
theorem rsL_1 (a : Fe) : lB (txN a 1) = rsL 1 (hB a) (lB a) :=
  basis (fun a => lB (txN a 1)) (fun a => rsL 1 (hB a) (lB a)) (fun a b => by show lB (txN (a ^^^ b) 1) = _; rw [txN_xor, lB_xor]) (fun a b => by show rsL 1 (hB (a ^^^ b)) (lB (a ^^^ b)) = _; rw [hB_xor, lB_xor, rsL_xor]) (by decide +kernel) a
theorem rsH_4 (a : Fe) : hB (txN a 4) = rsH 4 (hB a) (lB a) :=
  basis (fun a => hB (txN a 4)) (fun a => rsH 4 (hB a) (lB a)) (fun a b => by show hB (txN (a ^^^ b) 4) = _; rw [txN_xor, hB_xor]) (fun a b => by show rsH 4 (hB (a ^^^ b)) (lB (a ^^^ b)) = _; rw [hB_xor, lB_xor, rsH_xor]) (by decide +kernel) a
theorem rsL_4 (a : Fe) : lB (txN a 4) = rsL 4 (hB a) (lB a) :=
  basis (fun a => lB (txN a 4)) (fun a => rsL 4 (hB a) (lB a)) (fun a b => by show lB (txN (a ^^^ b) 4) = _; rw [txN_xor, lB_xor]) (fun a b => by show rsL 4 (hB (a ^^^ b)) (lB (a ^^^ b)) = _; rw [hB_xor, lB_xor, rsL_xor]) (by decide +kernel) a

/-- An element times the polynomial of the four bits of n, the first one the highest. -/
def pr (h : Fe) (n : Nat) : Fe := ((if n.testBit 3 then h else 0) ^^^ (if n.testBit 2 then txN h 1 else 0)) ^^^ ((if n.testBit 1 then txN h 2 else 0) ^^^ (if n.testBit 0 then txN h 3 else 0))
/-- A product so far, with k times four bits of a word taken. -/
def tkF (h p : Fe) (w : Nat) : Nat → Fe
  | 0 => p
  | k + 1 => txN (tkF h p w k) 4 ^^^ pr h (w / 16 ^ k % 16)
theorem fmul_ite (c : Bool) (a h : Fe) : fmul (if c then a else 0) h = if c then fmul a h else 0 := (fmul_left h).ite c a
theorem fmul_pr (h : Fe) (n : Nat) : fmul (pr 1 n) h = pr h n := by
  have l := fmul_left h
  have hx : ∀ a b, fmul (a ^^^ b) h = fmul a h ^^^ fmul b h := l
  unfold pr
  rw [hx, hx, hx, fmul_ite, fmul_ite, fmul_ite, fmul_ite, fmul_txN', fmul_txN', fmul_txN', one_fmul]
theorem fmul_tk (h p : Fe) (w k : Nat) : fmul (tkF 1 p w k) h = tkF h (fmul p h) w k := by
  induction k with
  | zero => rfl
  | succ k ih =>
    have hx : ∀ a b, fmul (a ^^^ b) h = fmul a h ^^^ fmul b h := fmul_left h
    rw [tkF, hx, fmul_txN', ih, fmul_pr]
    rfl
theorem nib_bit (w k : Nat) {j : Nat} (hj : j < 4) : (w / 16 ^ k % 16).testBit j = w.testBit (4 * k + j) := by
  rw [show (16 : Nat) ^ k = 2 ^ (4 * k) from by rw [Nat.pow_mul]]
  rw [show w / 2 ^ (4 * k) % 16 = w / 2 ^ (4 * k) % 2 ^ 4 from rfl, Nat.testBit_mod_two_pow, Nat.testBit_div_two_pow, Nat.add_comm]
  simp [hj]
theorem ite_xor (c d : Bool) (a : Fe) : (if (c ^^ d) then a else 0) = (if c then a else 0) ^^^ (if d then a else 0) := by
  cases c <;> cases d <;> simp
theorem pr_xor (h : Fe) (w v k : Nat) : pr h ((w ^^^ v) / 16 ^ k % 16) = pr h (w / 16 ^ k % 16) ^^^ pr h (v / 16 ^ k % 16) := by
  unfold pr
  rw [nib_bit _ k (j := 3) (by omega), nib_bit _ k (j := 2) (by omega), nib_bit _ k (j := 1) (by omega), nib_bit _ k (j := 0) (by omega)]
  rw [nib_bit w k (j := 3) (by omega), nib_bit w k (j := 2) (by omega), nib_bit w k (j := 1) (by omega), nib_bit w k (j := 0) (by omega)]
  rw [nib_bit v k (j := 3) (by omega), nib_bit v k (j := 2) (by omega), nib_bit v k (j := 1) (by omega), nib_bit v k (j := 0) (by omega)]
  simp only [Nat.testBit_xor, ite_xor]
  generalize (if w.testBit (4 * k + 3) then h else 0) = a3
  generalize (if w.testBit (4 * k + 2) then txN h 1 else 0) = a2
  generalize (if w.testBit (4 * k + 1) then txN h 2 else 0) = a1
  generalize (if w.testBit (4 * k + 0) then txN h 3 else 0) = a0
  generalize (if v.testBit (4 * k + 3) then h else 0) = b3
  generalize (if v.testBit (4 * k + 2) then txN h 1 else 0) = b2
  generalize (if v.testBit (4 * k + 1) then txN h 2 else 0) = b1
  generalize (if v.testBit (4 * k + 0) then txN h 3 else 0) = b0
  rw [fx_four a3 b3 a2 b2, fx_four a1 b1 a0 b0, fx_four]
theorem tk_xor (h p q : Fe) (w v k : Nat) : tkF h (p ^^^ q) (w ^^^ v) k = tkF h p w k ^^^ tkF h q v k := by
  induction k with
  | zero => rfl
  | succ k ih =>
    rw [tkF, ih, pr_xor, txN_xor, fx_four]
    rfl
/-- Both words taken: the product. -/
theorem tk_one (e : Fe) : tkF 1 (tkF 1 0 (lB e).toNat 16) (hB e).toNat 16 = e :=
  basis (fun e => tkF 1 (tkF 1 0 (lB e).toNat 16) (hB e).toNat 16) (fun e => e) (fun a b => by
    show tkF 1 (tkF 1 0 (lB (a ^^^ b)).toNat 16) (hB (a ^^^ b)).toNat 16 = _
    rw [lB_xor, hB_xor, BitVec.toNat_xor, BitVec.toNat_xor]
    have := tk_xor 1 0 0 (lB a).toNat (lB b).toNat 16
    rw [fx_self] at this
    rw [this, tk_xor]) (fun _ _ => rfl) (by decide +kernel) e
theorem tk_mul (e h : Fe) : tkF h (tkF h 0 (lB e).toNat 16) (hB e).toNat 16 = fmul e h := by
  have := fmul_tk h (tkF 1 0 (lB e).toNat 16) (hB e).toNat 16
  rw [tk_one, fmul_tk h 0, fmul_comm 0 h, fmul_zero] at this
  exact this.symm

/-- The bits of the number of at most eight bytes. -/
theorem getN_bit : ∀ (m : Nat) (l : List UInt8), l.length = m → m ≤ 8 → getN l < 2 ^ (8 * m) ∧ ∀ i, i < 8 * m → (getN l).testBit (8 * m - 1 - i) = bitB l i := by
  intro m
  induction m with
  | zero => intro l hl _; rw [List.length_eq_zero_iff.1 hl]; exact ⟨by decide, fun i hi => by omega⟩
  | succ m ih =>
    intro l hl hm
    have hne : l ≠ [] := by intro e; rw [e] at hl; simp at hl
    obtain ⟨r, x, rfl⟩ : ∃ r x, l = r ++ [x] := ⟨l.dropLast, l.getLast hne, (List.dropLast_concat_getLast hne).symm⟩
    have hr : r.length = m := by simp at hl; exact hl
    obtain ⟨hb, hi⟩ := ih r hr (by omega)
    have hx := UInt8.toNat_lt x
    have hp : (2 : Nat) ^ (8 * (m + 1)) = 2 ^ (8 * m) * 256 := by rw [show 8 * (m + 1) = 8 * m + 8 from by omega, Nat.pow_add]
    have hp2 : (2 : Nat) ^ (8 * (m + 1)) ≤ 2 ^ 64 := Nat.pow_le_pow_right (by omega) (by omega)
    have e : getN (r ++ [x]) = 2 ^ 8 * getN r + x.toNat := by
      rw [getN_snoc, Nat.mod_eq_of_lt]
      · omega
      · rw [show (18446744073709551616 : Nat) = 2 ^ 64 from rfl]
        omega
    refine ⟨by rw [e]; omega, fun i hlt => ?_⟩
    rw [e, Nat.testBit_two_pow_mul_add _ hx]
    by_cases h8 : 8 * (m + 1) - 1 - i < 8
    · rw [if_pos h8]
      have hq : i / 8 = m := by omega
      unfold bitB
      rw [hq, show (r ++ [x]).getD m 0 = x from by rw [List.getD_eq_getElem?_getD, ← hr]; simp]
      have hl2 : m < (r ++ [x]).length := by simp [hr]
      simp only [hl2, decide_true, Bool.true_and]
      have hs : 8 * (m + 1) - 1 - i = 7 - i % 8 := by omega
      rw [hs]
      have : ∀ b : Fin 256, ∀ s : Fin 8, (UInt8.ofNat b.val).toNat.testBit s.val = decide ((UInt8.ofNat b.val >>> UInt8.ofNat s.val) &&& 1 = 1) := by decide +kernel
      have h := this ⟨x.toNat, hx⟩ ⟨7 - i % 8, by omega⟩
      simpa using h
    · rw [if_neg h8]
      have := hi i (by omega)
      rw [show 8 * (m + 1) - 1 - i - 8 = 8 * m - 1 - i from by omega, this]
      unfold bitB
      have h1 : i / 8 < r.length := by omega
      have h2 : i / 8 < (r ++ [x]).length := by simp; omega
      simp only [h1, h2, decide_true, Bool.true_and]
      rw [show (r ++ [x]).getD (i / 8) 0 = r.getD (i / 8) 0 from by rw [List.getD_eq_getElem?_getD, List.getD_eq_getElem?_getD, List.getElem?_append_left h1]]
theorem hB_feB {l m : List UInt8} (hl : l.length = 8) : (hB (feB (l ++ m))).toNat = getN l := by
  obtain ⟨hb, hi⟩ := getN_bit 8 l hl (by omega)
  apply Nat.eq_of_testBit_eq
  intro i
  by_cases h : i < 64
  · have e1 : (hB (feB (l ++ m))).toNat.testBit i = (feB (l ++ m)).getLsbD (63 - i) := hB_bit _ h
    have := hi (63 - i) (by omega)
    rw [show 8 * 8 - 1 - (63 - i) = i from by omega] at this
    rw [e1, this, feB_bit _ (by omega)]
    unfold bitB
    have h1 : (63 - i) / 8 < l.length := by omega
    have h2 : (63 - i) / 8 < (l ++ m).length := by simp; omega
    simp only [h1, h2, decide_true, Bool.true_and]
    rw [show (l ++ m).getD ((63 - i) / 8) 0 = l.getD ((63 - i) / 8) 0 from by rw [List.getD_eq_getElem?_getD, List.getD_eq_getElem?_getD, List.getElem?_append_left h1]]
  · have hp : (2 : Nat) ^ 64 ≤ 2 ^ i := Nat.pow_le_pow_right (by omega) (by omega)
    rw [Nat.testBit_lt_two_pow (Nat.lt_of_lt_of_le (hB _).isLt hp), Nat.testBit_lt_two_pow (Nat.lt_of_lt_of_le hb hp)]
theorem lB_feB {l m : List UInt8} (hl : l.length = 8) (hm : m.length = 8) : (lB (feB (l ++ m))).toNat = getN m := by
  obtain ⟨hb, hi⟩ := getN_bit 8 m hm (by omega)
  apply Nat.eq_of_testBit_eq
  intro i
  by_cases h : i < 64
  · have e1 : (lB (feB (l ++ m))).toNat.testBit i = (feB (l ++ m)).getLsbD (127 - i) := lB_bit _ h
    have := hi (63 - i) (by omega)
    rw [show 8 * 8 - 1 - (63 - i) = i from by omega] at this
    rw [e1, this, feB_bit _ (by omega)]
    unfold bitB
    have h1 : (63 - i) / 8 < m.length := by omega
    have h2 : (127 - i) / 8 < (l ++ m).length := by simp; omega
    simp only [h1, h2, decide_true, Bool.true_and]
    rw [show (l ++ m).getD ((127 - i) / 8) 0 = m.getD ((63 - i) / 8) 0 from by rw [List.getD_eq_getElem?_getD, List.getD_eq_getElem?_getD, List.getElem?_append_right (by omega), show (127 - i) / 8 - l.length = (63 - i) / 8 from by omega]]
    rw [show (127 - i) % 8 = (63 - i) % 8 from by omega]
  · have hp : (2 : Nat) ^ 64 ≤ 2 ^ i := Nat.pow_le_pow_right (by omega) (by omega)
    rw [Nat.testBit_lt_two_pow (Nat.lt_of_lt_of_le (lB _).isLt hp), Nat.testBit_lt_two_pow (Nat.lt_of_lt_of_le hb hp)]
/-- An element's bytes are those of its two words. -/
theorem byF_words (a : Fe) : putL (hB a).toNat 8 ++ putL (lB a).toNat 8 = byF a := by
  have h8 := putL_length 8 (hB a).toNat
  have l8 := putL_length 8 (lB a).toNat
  rw [← byF_feB (l := putL (hB a).toNat 8 ++ putL (lB a).toNat 8) (by rw [List.length_append, h8, l8])]
  congr 1
  apply words_ext
  · apply BitVec.eq_of_toNat_eq
    rw [hB_feB h8, getN_put8 _ (hB a).isLt]
  · apply BitVec.eq_of_toNat_eq
    rw [lB_feB h8 l8, getN_put8 _ (lB a).isLt]
/-- Only the first sixteen bytes count, and noughts behind fewer. -/
theorem feB_pad (l : List UInt8) (n : Nat) : feB (l.take 16 ++ List.replicate n 0) = feB l := by
  apply BitVec.eq_of_getLsbD_eq
  intro i hi
  rw [feB_bit _ hi, feB_bit _ hi]
  unfold bitB
  by_cases h1 : i / 8 < l.length
  · have h2 : i / 8 < (l.take 16).length := by simp; omega
    have h3 : i / 8 < (l.take 16 ++ List.replicate n 0).length := by rw [List.length_append]; omega
    simp only [h1, h3, decide_true, Bool.true_and]
    rw [show (l.take 16 ++ List.replicate n (0 : UInt8)).getD (i / 8) 0 = l.getD (i / 8) 0 from by rw [List.getD_eq_getElem?_getD, List.getD_eq_getElem?_getD, List.getElem?_append_left h2, List.getElem?_take_of_lt (by omega)]]
  · have h2 : (l.take 16).length ≤ i / 8 := by simp; omega
    have : (l.take 16 ++ List.replicate n 0).getD (i / 8) 0 = 0 := by
      rw [List.getD_eq_getElem?_getD, List.getElem?_append_right h2, List.getElem?_replicate]
      split <;> rfl
    rw [this]
    have hz : ∀ s : Fin 8, decide (((0 : UInt8) >>> UInt8.ofNat (7 - s.val)) &&& 1 = 1) = false := by decide +kernel
    have := hz ⟨i % 8, by omega⟩
    simp only [] at this
    rw [this]
    simp [h1]

end Go.Proofs.Ytbgdckhadfcnbaa

/-
  Elements as the program's values: two words in a struct. The contracts of Add and raised. No condition.
-/
namespace Go.Proofs.Ytbgdckhadfcnbaa
open Go.RowKit

/-- The words as numbers. -/
def hN (a : Fe) : Nat := (hB a).toNat
def lN (a : Fe) : Nat := (lB a).toNat
theorem hN_lt (a : Fe) : hN a < 18446744073709551616 := (hB a).isLt
theorem lN_lt (a : Fe) : lN a < 18446744073709551616 := (lB a).isLt
theorem hN_xor (a b : Fe) : hN (a ^^^ b) = hN a ^^^ hN b := by unfold hN; rw [hB_xor, BitVec.toNat_xor]
theorem lN_xor (a b : Fe) : lN (a ^^^ b) = lN a ^^^ lN b := by unfold lN; rw [lB_xor, BitVec.toNat_xor]
theorem hN_add (a b : Fe) : bits .xor .u64 (hN a : Int) (hN b : Int) = (hN (a ^^^ b) : Int) := by
  rw [u64_xor_nat _ _ (hN_lt a) (hN_lt b), hN_xor]
theorem lN_add (a b : Fe) : bits .xor .u64 (lN a : Int) (lN b : Int) = (lN (a ^^^ b) : Int) := by
  rw [u64_xor_nat _ _ (lN_lt a) (lN_lt b), lN_xor]
theorem N_ext {a b : Fe} (h : hN a = hN b) (l : lN a = lN b) : a = b := words_ext (BitVec.eq_of_toNat_eq h) (BitVec.eq_of_toNat_eq l)

/-- An element as a value. -/
def ev (a : Fe) : Value := .agg #[.int .u64 (hN a : Int), .int .u64 (lN a : Int)]

set_option maxHeartbeats 400000 in
theorem oAddE (w : World) (a b : Fe) : Calls Try.prog 41 #[ev a, ev b] w fun e w' => e = .returned (ev (a ^^^ b)) ∧ Below w.heap.size w w' := by
  unfold ev
  have e1 := hN_add a b
  have e2 := lN_add a b
  generalize hN a = x1 at *
  generalize hN b = x2 at *
  generalize lN a = y1 at *
  generalize lN b = y2 at *
  generalize hN (a ^^^ b) = x3 at *
  generalize lN (a ^^^ b) = y3 at *
  go_enter Try.func41, Try.ntmps41
  go_wp2
  refine bodyPost_ret (v := .agg #[.int .u64 (x3 : Int), .int .u64 (y3 : Int)]) (by simp [results, Try.results41, go_sem]) rfl ⟨rfl, below3 _ _ _ _⟩

theorem ev_zero : ev 0 = .agg #[.int .u64 0, .int .u64 0] := by
  unfold ev hN lN
  rw [hB_zero, lB_zero]
  rfl
theorem zero_iff (a : Fe) : a = 0 ↔ hN a = 0 ∧ lN a = 0 := by
  constructor
  · rintro rfl
    unfold hN lN
    rw [hB_zero, lB_zero]
    exact ⟨rfl, rfl⟩
  · rintro ⟨h, l⟩
    refine N_ext ?_ ?_
    · rw [h]; unfold hN; rw [hB_zero]; rfl
    · rw [l]; unfold lN; rw [lB_zero]; rfl
theorem ww_xor (x y : BitVec 64) : bits .xor .u64 (x.toNat : Int) (y.toNat : Int) = ((x ^^^ y).toNat : Int) := by
  rw [u64_xor_nat _ _ x.isLt y.isLt, BitVec.toNat_xor]
theorem ww_shr (x : BitVec 64) (k : Nat) (d : Int) (hd : d = ((2 ^ k : Nat) : Int)) : (x.toNat : Int) / d = ((x >>> k).toNat : Int) := by
  rw [BitVec.toNat_ushiftRight, Nat.shiftRight_eq_div_pow, hd, Int.natCast_ediv]
theorem ww_shl (x : BitVec 64) (k : Nat) (d : Int) (hd : d = ((2 ^ k : Nat) : Int)) : IntKind.u64.wrap ((x.toNat : Int) * d) = ((x <<< k).toNat : Int) := by
  rw [BitVec.toNat_shiftLeft, Nat.shiftLeft_eq, hd, IntKind.wrap_u64, Int.natCast_emod, Int.natCast_mul]
  rfl
theorem rs_h (k : Nat) (dk ds : Int) (hk : dk = ((2 ^ k : Nat) : Int)) (hs : ds = ((2 ^ (64 - k) : Nat) : Int)) (h l : BitVec 64) :
    bits .xor .u64 (bits .xor .u64 (bits .xor .u64 (bits .xor .u64 ((h.toNat : Int) / dk) (IntKind.u64.wrap ((l.toNat : Int) * ds))) (IntKind.u64.wrap ((l.toNat : Int) * ds) / 2)) (IntKind.u64.wrap ((l.toNat : Int) * ds) / 4)) (IntKind.u64.wrap ((l.toNat : Int) * ds) / 128) = ((rsH k h l).toNat : Int) := by
  rw [ww_shl l (64 - k) ds hs, ww_shr h k dk hk, ww_shr _ 1 2 rfl, ww_shr _ 2 4 rfl, ww_shr _ 7 128 rfl, ww_xor, ww_xor, ww_xor, ww_xor]
  rfl
theorem rs_l (k : Nat) (dk ds : Int) (hk : dk = ((2 ^ k : Nat) : Int)) (hs : ds = ((2 ^ (64 - k) : Nat) : Int)) (h l : BitVec 64) :
    bits .xor .u64 ((l.toNat : Int) / dk) (IntKind.u64.wrap ((h.toNat : Int) * ds)) = ((rsL k h l).toNat : Int) := by
  rw [ww_shl h (64 - k) ds hs, ww_shr l k dk hk, ww_xor]
  rfl

set_option maxHeartbeats 1000000 in
theorem oRaise1 (w : World) (a : Fe) : Calls Try.prog 40 #[ev a, .int .i64 1] w fun e w' => e = .returned (ev (txN a 1)) ∧ Below w.heap.size w w' := by
  have e1 := rs_h 1 2 9223372036854775808 rfl rfl (hB a) (lB a)
  have e2 := rs_l 1 2 9223372036854775808 rfl rfl (hB a) (lB a)
  rw [← rsH_1] at e1
  rw [← rsL_1] at e2
  unfold ev hN lN
  generalize (hB a).toNat = x1 at *
  generalize (lB a).toNat = y1 at *
  generalize (hB (txN a 1)).toNat = x3 at *
  generalize (lB (txN a 1)).toNat = y3 at *
  have E1 : Hid (_ = _) := e1
  have E2 : Hid (_ = _) := e2
  clear e1 e2
  go_enter Try.func40, Try.ntmps40
  go_wp2
  go_region
  go_wp2
  rw [E1.out, E2.out]
  refine bodyPost_ret (v := .agg #[.int .u64 (x3 : Int), .int .u64 (y3 : Int)]) (by simp [results, Try.results40, go_sem]) rfl ⟨rfl, (below2 _ _ _).drew⟩
set_option maxHeartbeats 1000000 in
theorem oRaise4 (w : World) (a : Fe) : Calls Try.prog 40 #[ev a, .int .i64 4] w fun e w' => e = .returned (ev (txN a 4)) ∧ Below w.heap.size w w' := by
  have e1 := rs_h 4 16 1152921504606846976 rfl rfl (hB a) (lB a)
  have e2 := rs_l 4 16 1152921504606846976 rfl rfl (hB a) (lB a)
  rw [← rsH_4] at e1
  rw [← rsL_4] at e2
  unfold ev hN lN
  generalize (hB a).toNat = x1 at *
  generalize (lB a).toNat = y1 at *
  generalize (hB (txN a 4)).toNat = x3 at *
  generalize (lB (txN a 4)).toNat = y3 at *
  have E1 : Hid (_ = _) := e1
  have E2 : Hid (_ = _) := e2
  clear e1 e2
  go_enter Try.func40, Try.ntmps40
  go_wp2
  go_region
  go_wp2
  rw [E1.out, E2.out]
  refine bodyPost_ret (v := .agg #[.int .u64 (x3 : Int), .int .u64 (y3 : Int)]) (by simp [results, Try.results40, go_sem]) rfl ⟨rfl, (below2 _ _ _).drew⟩

end Go.Proofs.Ytbgdckhadfcnbaa

/-
  The builtin copy of bytes into a block that is known whole, as one step of a region that draws its order. No condition; no statement of the seat is proved here.
-/
namespace Go.Proofs.Ytbgdckhadfcnbaa
open Go.RowKit

theorem cs_sub' {l : List UInt8} {n j : Nat} {v : Value} (h : (cs (l.take n))[j]? = some v) : (cs l)[j]? = some v := by
  simp only [cs, List.getElem?_map, List.getElem?_take] at h ⊢
  by_cases hj : j < n
  · simpa [hj] using h
  · simp [hj] at h

/-- What a copy of so many bytes leaves. -/
structure Copied (w w' : World) (g off n : Nat) (vs : List Value) (l : List UInt8) (t : TypeId) : Prop where
  blk : Blk w' g (vs.take off ++ cs (l.take n) ++ vs.drop (off + n)) t
  by_ : w.grownBy w' (some g)
  size : w'.heap.size = w.heap.size

theorem Copied.other {w w' : World} {g off n : Nat} {vs : List Value} {l : List UInt8} {t : TypeId} (h : Copied w w' g off n vs l t) {k : Nat} {us : List Value} {u : TypeId} (b : Blk w k us u) (hk : k ≠ g) : Blk w' k us u := by
  unfold Blk
  rw [h.by_.block k b.lt (by simpa using hk)]
  exact b
theorem Copied.below {w w' : World} {g off n : Nat} {vs : List Value} {l : List UInt8} {t : TypeId} (h : Copied w w' g off n vs l t) {B : Nat} {a : World} (hb : Below B a w) (hg : B ≤ g) (hB : B ≤ w.heap.size) : Below B a w' :=
  hb.grown h.by_ hB (fun k hk => by simp at hk; omega)

theorem step_cp {ops : Array Oper} {o : Oper} {a : Act} {w : World} {K : Act → World → Prop} {Q : Exit → Act → World → Prop} {E : Prop} (hgd : o.guard = none) (d s : Operand)
    (ho : o.op = .call { callee := .builtin .copy, args := #[d, s], argTypes := #[22, 22] }) (g off dl dc : Nat) (hd : a.eval d = .slice (some ⟨g, off, none⟩) dl dc)
    (sp : Option Addr) (m c : Nat) (hs : a.eval s = .slice sp m c) (l : List UInt8) (hb : Bs w sp m c l) (vs : List Value) (t : TypeId) (blk : Blk w g vs t) (n : Nat) (hn : n = Nat.min m dl) (hfit : off + n ≤ vs.length) (hpos : 0 < n)
    (h : ∀ w', Copied w w' g off n vs l t → K (a.put o.dst (.int .i64 (n : Int))) w') :
    if Region.wanted o (yielded ops a.tmps) = true then Oper.wp Try.prog o a w K Q else E := by
  have hw : Region.wanted o (yielded ops a.tmps) = true := by simp [Region.wanted, hgd]
  rw [if_pos hw]
  have hm : n ≤ m := by rw [hn]; exact Nat.min_le_left _ _
  obtain ⟨b, so, rfl, _, _⟩ := hb.at (by omega)
  have hlen := hb.len
  have hcl : (cs (l.take n)).length = n := by rw [cs_length, List.length_take]; omega
  obtain ⟨i0, hi, hz0, hz1, hz2⟩ := info_parts info5
  have hrun := run_copy_row (P := Try.prog) w 22 22 o.type 5 g off dl dc ⟨b, so, none⟩ m c vs.toArray t (cs (l.take n)) Try.underlying22 (by rw [hi]; simp [hz1]) blk (by rw [hcl, hn]) (fun j v hj => hb.news j v (cs_sub' hj)) (by simpa [hcl] using hfit) cs_one
  rw [hcl] at hrun
  unfold Oper.wp
  simp [execOp, ho, resolve, invoke, builtin, hd, hs, hrun, Result.andThen]
  have := h (w.setRow g (vs.take off ++ (cs (l.take n) ++ vs.drop (off + n))).toArray) ⟨?_, ?_, ?_⟩
  · rw [Oper.upon_value]; simpa [goInt] using this
  · unfold Blk
    rw [setRow_heap w g _ _ t (0, 0) blk, List.append_assoc]
  · exact ⟨rfl, rfl, rfl, by simp, fun k _ hk => setRow_other w g k _ (by simpa using hk)⟩
  · simp

end Go.Proofs.Ytbgdckhadfcnbaa

/-
  The builtin copy of bytes into a block that is known whole, as an operation of its own. No condition; no statement of the seat is proved here.
-/
namespace Go.Proofs.Ytbgdckhadfcnbaa
open Go.RowKit

/-- Looks whether the next operation is a copy: for 'with_reducible refine' ahead of the law below. -/
theorem at_cp {args : Array Operand} {tys : Array TypeId} {ops : Array Oper} {rest : List Oper} {a : Act} {w : World} {Q : Exit → Act → World → Prop} {dst : Option Tmp} {tp : TypeId} {pos : String} {aft : Array Edge}
    (h : wpList Try.prog ops Q ({ dst := dst, op := .call { callee := .builtin .copy, args := args, argTypes := tys }, type := tp, pos := pos, after := aft, guard := none } :: rest) a w) : wpList Try.prog ops Q ({ dst := dst, op := .call { callee := .builtin .copy, args := args, argTypes := tys }, type := tp, pos := pos, after := aft, guard := none } :: rest) a w := h
/-- 'copy(block[:], b)' into a block that is known whole: as many as there are in both. -/
theorem wpList_cpm {ops : Array Oper} {rest : List Oper} {o : Oper} {a : Act} {Q : Exit → Act → World → Prop} (w : World) (hgd : o.guard = none) (d s : Operand)
    (ho : o.op = .call { callee := .builtin .copy, args := #[d, s], argTypes := #[22, 22] }) (g dl dc : Nat) (hd : a.eval d = .slice (some ⟨g, 0, none⟩) dl dc)
    (sp : Option Addr) (m c : Nat) (hs : a.eval s = .slice sp m c) (l : List UInt8) (hb : Bs w sp m c l) (vs : List Value) (t : TypeId) (blk : Blk w g vs t) (hfit : vs.length = dl)
    (h : ∀ v w', Blk w' g (cs (l.take dl) ++ vs.drop (min m dl)) t → Below g w w' → (∀ k us u, k ≠ g → Blk w k us u → Blk w' k us u) → wpList Try.prog ops Q rest (a.put o.dst v) w') : wpList Try.prog ops Q (o :: rest) a w := by
  have hl := hb.len
  obtain ⟨i0, hi, hz0, hz1, hz2⟩ := info_parts info5
  have hsz : (Try.prog.info? 5).map (·.size) = some 1 := by rw [hi]; simp [hz1]
  by_cases h0 : m = 0
  · subst h0
    obtain rfl : l = [] := List.length_eq_zero_iff.1 hl
    refine wpList_copy_nothing hgd d s 22 22 ho 5 Try.underlying22 hsz _ sp dl dc 0 c hd hs (by simp) ?_
    exact h _ w (by simpa [cs] using blk) (Below.refl _ _) (fun _ _ _ _ b => b)
  · obtain ⟨b, o', rfl, _, _⟩ := hb.at (by omega)
    have hcl : (cs (l.take dl)).length = min m dl := by rw [cs_length, List.length_take, hl, Nat.min_comm]
    refine wpList_copy_own hgd d s 22 22 ho 5 Try.underlying22 hsz g 0 dl dc ⟨b, o', none⟩ m c hd hs vs.toArray t blk (cs (l.take dl)) (by rw [hcl]) (fun j v hj => hb.news j v (cs_sub' hj)) (by rw [hcl]; simp; omega) cs_one ?_
    refine h _ _ ?_ ((Below.refl _ _).trans ⟨rfl, rfl, rfl, by simp [World.setRow], fun k hk => setRow_other w g k _ (by omega)⟩) (fun k us u hk b => ?_)
    · unfold Blk
      rw [setRow_heap w g _ _ t (0, 0) blk]
      simp [hcl]
    · unfold Blk
      rw [setRow_other w g k _ hk]
      exact b

end Go.Proofs.Ytbgdckhadfcnbaa

/-
  The contract of the program's Get: the number of a row of bytes, the highest first, of the last eight. No condition.
-/
namespace Go.Proofs.Ytbgdckhadfcnbaa
open Go.RowKit

set_option maxHeartbeats 400000 in
theorem oGet (w : World) {a : Option Addr} {n c : Nat} {l : List UInt8} (ha : Bs w a n c l) :
    Calls Try.prog 42 #[.slice a n c] w fun e w' => e = .returned (.int .u64 (getN l)) ∧ w = w' := by
  have h1 := ha.max
  by_cases h0 : n = 0
  · subst h0
    have e : l = [] := List.length_eq_zero_iff.1 ha.len
    subst e
    clear ha
    go_enter Try.func42, Try.ntmps42
    go_wp2
    refine wp_loop_rounds 1 ?_; rw [rounds_succ]; go_wp2
    go_ret
    exact ⟨rfl, rfl⟩
  · obtain ⟨x, o, rfl, hx, hc⟩ := ha.at (by omega)
    have H : Hid (l.length = n) := ha.len
    clear ha
    go_enter Try.func42, Try.ntmps42
    go_wp2
    go_loop [3, 8] (fun t i => ∃ k : Nat, k ≤ n ∧ i = .int .i64 k ∧ t = .int .u64 (getN (l.take k))) (fun _ i => n - (intOf i).toNat)
    case atStart => exact ⟨0, Nat.zero_le _, rfl, rfl⟩
    case round =>
      obtain ⟨k, hk, rfl, rfl⟩ := hrel
      by_cases hlt : k < n
      · have c1 := hc k hlt
        have b1 := bt_lo l k
        have b2 := bt_hi l k
        clear hc
        go_wp2
        go_round
        case rel => exact ⟨k + 1, by omega, by go_num, by rw [get_step_or (by rw [H.out]; exact hlt)]⟩
        case measure => simp [intOf]; omega
      · go_wp2
        go_ret
        exact ⟨ret_int (get_end H hlt), rfl⟩
end Go.Proofs.Ytbgdckhadfcnbaa

/-
  The contract of the program's Put: the lowest bytes of a number, the highest first, in memory of the call's own. Conditions: the number fits 64 bits; the size is at most 1000000.
-/
namespace Go.Proofs.Ytbgdckhadfcnbaa
open Go.RowKit

theorem put_start {n m : Nat} {w : World} {base : Nat} {L : List UInt8} (e : L = putL n m) {v : Value} (h : Own w base v L) : Own w base v (putL n m) := by rw [← e]; exact h

/-- One byte more, from behind. -/
theorem put_more {n m t q : Nat} (ht : t < m) (hq : q = n / 256 ^ t) : (List.replicate (m - t) 0 ++ putL n t).set (m - 1 - t) (UInt8.ofNat q) = List.replicate (m - (t + 1)) 0 ++ putL n (t + 1) := by
  rw [putL_cons, hq]
  obtain ⟨d, rfl⟩ : ∃ d, m = d + 1 + t := ⟨m - 1 - t, by omega⟩
  rw [show d + 1 + t - t = d + 1 from by omega, show d + 1 + t - 1 - t = d from by omega, show d + 1 + t - (t + 1) = d from by omega, List.replicate_succ', List.append_assoc]
  rw [List.set_append_right _ _ (by simp)]
  simp

theorem put_div {n t q : Nat} (H : Hid (q = n / 256 ^ t)) : (q : Int) / 256 = ((n / 256 ^ (t + 1) : Nat) : Int) := by
  rw [H.out, Nat.pow_succ, ← Nat.div_div_eq_div_mul]
  omega
theorem put_done {n m t : Nat} (ht : t ≤ m) (H : Hid (0 = n / 256 ^ t)) : List.replicate (m - t) 0 ++ putL n t = putL n m := by
  rw [putL_rest t (m - t) n H.out.symm, show m - t + t = m from by omega]
theorem put_full {n m t : Nat} (ht : t ≤ m) (h : ¬ t < m) : List.replicate (m - t) 0 ++ putL n t = putL n m := by
  have : t = m := by omega
  subst this
  simp

set_option maxHeartbeats 400000 in
theorem oPut (n s : Int) (w : World) (hs : s ≤ 1000000) (hn0 : 0 ≤ n) (hn : n ≤ 18446744073709551615) (hlo : -9223372036854775808 ≤ s) :
    Calls Try.prog 49 #[.int .u64 n, .int .i64 s] w (Gives w (putL n.toNat s.toNat)) := by
  by_cases h1 : s < 1
  · have e : s.toNat = 0 := by omega
    rw [e]
    clear e
    go_enter Try.func49, Try.ntmps49
    go_wp2
    go_ret
    exact Gives.mk (Own.nil _ _) (Below.refl _ _)
  · obtain ⟨m, rfl⟩ : ∃ m : Nat, s = m := ⟨s.toNat, by omega⟩
    obtain ⟨n, rfl⟩ : ∃ q : Nat, n = q := ⟨n.toNat, by omega⟩
    rw [Int.toNat_natCast, Int.toNat_natCast]
    have h2 : ¬ (2147483647 : Int) < m := by omega
    go_enter Try.func49, Try.ntmps49
    go_wp2_with (at_make; refine wpList_mkn _ rfl _ _ rfl w.heap.size m _ rfl rfl rfl (by omega) (Nat.le_refl _) ?_; intro g w1 hg hgl hown hbel)
    go_loopw [0, 6] (fun q i wr => ∃ t : Nat, t ≤ m ∧ i = .int .i64 ((m : Int) - 1 - t) ∧ q = .int .u64 ((n / 256 ^ t : Nat) : Int) ∧ Own wr w.heap.size (.slice (some ⟨g, 0, none⟩) m m) (List.replicate (m - t) 0 ++ putL n t) ∧ Below w.heap.size w wr) (fun _ i _ => (intOf i + 1).toNat)
    case atStart => exact ⟨0, Nat.zero_le _, by simp, by simp, by simpa [putL] using hown, hbel⟩
    case round =>
      obtain ⟨t, ht, rfl, rfl, ho, hb⟩ := hrel
      clear hown hbel
      have ex : ∃ q, q = n / 256 ^ t := ⟨_, rfl⟩
      obtain ⟨q, hq⟩ := ex
      rw [← hq]
      have Hq : Hid (q = n / 256 ^ t) := hq
      have hqm : q ≤ 18446744073709551615 := by rw [hq]; exact Nat.le_trans (Nat.div_le_self _ _) (by omega)
      clear hq
      by_cases hc : t < m ∧ 0 < q
      · obtain ⟨h3, h4⟩ := hc
        have i1 : (m : Int) - 1 - t = ((m - 1 - t : Nat) : Int) := by omega
        rw [i1]
        have hlen : (List.replicate (m - t) (0 : UInt8) ++ putL n t).length = m := by rw [List.length_append, putL_length, List.length_replicate]; omega
        obtain ⟨v0, hcell⟩ := ho.cell hlen (m - 1 - t) (by omega)
        have hfr := ho.free hlen (m - 1 - t)
        have ho2 := ho.set hlen (m - 1 - t) (UInt8.ofNat q)
        have hb2 := hb.setCell (p := ⟨g, m - 1 - t, none⟩) hg (.int .u8 ((UInt8.ofNat q).toNat : Int))
        rw [put_more h3 Hq.out] at ho2
        have hu : (((UInt8.ofNat q).toNat : Nat) : Int) = (q : Int) % 256 := by rw [UInt8.toNat_ofNat']; omega
        rw [hu] at ho2 hb2
        have HO : Hid (Own (wr.setCell ⟨g, m - 1 - t, none⟩ (.int .u8 ((q : Int) % 256))) w.heap.size (.slice (some ⟨g, 0, none⟩) m m) (List.replicate (m - (t + 1)) 0 ++ putL n (t + 1))) := ho2
        have HB : Hid (Below w.heap.size w (wr.setCell ⟨g, m - 1 - t, none⟩ (.int .u8 ((q : Int) % 256)))) := hb2
        have h5 : (0 : Int) < q := by omega
        have h6 : (0 : Int) ≤ ((m - 1 - t : Nat) : Int) := by omega
        have h7 : ((m - 1 - t : Nat) : Int) < m := by omega
        clear ho2 hb2 hu hlen ho hb
        go_wp2
        go_roundw
        case rel => exact ⟨t + 1, by omega, by rw [show ((m - 1 - t : Nat) : Int) - 1 = (m : Int) - 1 - ((t + 1 : Nat) : Int) from by omega], by rw [put_div Hq], HO.out, HB.out⟩
        case measure => simp [intOf]
      · by_cases h3 : t < m
        · have h4 : q = 0 := by omega
          subst h4
          have h6 : (0 : Int) ≤ (m : Int) - 1 - t := by omega
          go_wp2
          go_ret
          exact Gives.mk (put_start (put_done ht Hq) ho) hb
        · go_wp2
          go_ret
          exact Gives.mk (put_start (put_full ht h3) ho) hb
end Go.Proofs.Ytbgdckhadfcnbaa
