/-
  3 texts in one. No statement of the seat is proved here.
-/
import Derived.Test.YtnmmopneacdgfaaI14
import Derived.BigQuiet
import Derived.Deep.DeepCutAuto
/-
  Contracts of layer 18's reference: a node's size, what is wrong with a pair or a kid. Condition: a node of at most a hundred thousand things, keys and values of at most a thousand bytes.
-/
namespace Go.Proofs.Ytnmmopneacdgfaa
open Go.RowKit
set_option linter.unusedVariables false
/-- The cells of the k-th pair, the k-th kid. -/
theorem SlP.cells {A : Nat → Prop} {w w' : World} {a : Option Addr} {n c : Nat} {l : List PairS} (h : SlP A w a n c l) (hb : Below w.heap.size w w') {k : Nat} {x : PairS} (hx : l[k]? = some x) : ∃ b o kp km kc vp vm vc, a = some ⟨b, o, none⟩ ∧ w'.cell? ⟨b, o + k * 2, none⟩ = some (.slice kp km kc) ∧ w'.cell? ⟨b, o + k * 2 + 1, none⟩ = some (.slice vp vm vc) ∧ BA A w' kp km kc x.key ∧ BA A w' vp vm vc x.value ∧ b < w'.heap.size ∧ w'.rangeAt b (o + k * 2) [.slice kp km kc, .slice vp vm vc] := by
  obtain ⟨b, o, vs, ea, hlb, hrg, _, kp, km, kc, vp, vm, vc, rfl, h1, h2⟩ := h.at hb hx
  exact ⟨b, o, kp, km, kc, vp, vm, vc, ea, hrg 0 _ rfl, hrg 1 _ rfl, h1, h2, hlb, hrg⟩
theorem SlD.cells {A : Nat → Prop} {w w' : World} {a : Option Addr} {n c : Nat} {l : List KidS} (h : SlD A w a n c l) (hb : Below w.heap.size w w') {k : Nat} {x : KidS} (hx : l[k]? = some x) : ∃ b o kp km kc, a = some ⟨b, o, none⟩ ∧ w'.cell? ⟨b, o + k * 3, none⟩ = some (.slice kp km kc) ∧ w'.cell? ⟨b, o + k * 3 + 1, none⟩ = some (.int .i64 x.page) ∧ w'.cell? ⟨b, o + k * 3 + 2, none⟩ = some (.int .i64 x.epoch) ∧ BA A w' kp km kc x.key ∧ b < w'.heap.size ∧ w'.rangeAt b (o + k * 3) [.slice kp km kc, .int .i64 x.page, .int .i64 x.epoch] := by
  obtain ⟨b, o, vs, ea, hlb, hrg, _, kp, km, kc, rfl, h1, _, _⟩ := h.at hb hx
  exact ⟨b, o, kp, km, kc, ea, hrg 0 _ rfl, hrg 1 _ rfl, hrg 2 _ rfl, h1, hlb, hrg⟩
set_option maxRecDepth 100000 in
set_option maxHeartbeats 4000000 in
theorem rSizeN (w : World) {A : Nat → Prop} {n : NodeS} {p q : Tri} (h : Nd A w n p q) (hl : Lit n) : Calls Try.prog 17 #[ndv n p q] w fun e w' => e = .returned (.int .i64 (sizeN n : Nat)) ∧ Below w.heap.size w w' := by
  have l1 := h.lp
  have l2 := h.lk
  have hps := hl.ps
  have hks := hl.ks
  have hp := hl.p
  have hk := hl.k
  obtain ⟨lf, ps, ks⟩ := n
  obtain ⟨pa, pn, pc⟩ := p
  obtain ⟨qa, qn, qc⟩ := q
  dsimp only at *
  obtain ⟨V, hV⟩ : ∃ V, V = w.alloc (.cells (List.toArray [.bool lf, .slice pa pn pc, .slice qa qn qc]) 25) := ⟨_, rfl⟩
  have bV : Blk V w.heap.size [.bool lf, .slice pa pn pc, .slice qa qn qc] 25 := by rw [hV]; exact Blk.newAt w _ _ w.heap.size rfl _ rfl
  have kW : Below w.heap.size w V := by rw [hV]; exact below_alloc _ _
  have X1 : V.cell? ⟨w.heap.size, 1, none⟩ = some (.slice pa pn pc) := bV.cell 1
  have X2 : V.cell? ⟨w.heap.size, 2, none⟩ = some (.slice qa qn qc) := bV.cell 2
  have HP : Hid (SlP A V pa pn pc ps) := h.ps.below kW
  have HK : Hid (SlD A V qa qn qc ks) := h.ks.below kW
  unfold ndv ndc sizeN
  dsimp only
  have TP : Hid (∀ k x, ps[k]? = some x → totL psz (ps.take (k + 1)) = totL psz (ps.take k) + psz x) := fun k x hx => totL_snoc psz hx
  have TK : Hid (∀ k x, ks[k]? = some x → totL ksz (ks.take (k + 1)) = totL ksz (ks.take k) + ksz x) := fun k x hx => totL_snoc ksz hx
  have E1 : Hid (totL psz (ps.take pn) = totL psz ps) := by show _ = _; rw [List.take_of_length_le (by omega)]
  have E2 : Hid (totL ksz (ks.take qn) = totL ksz ks) := by show _ = _; rw [List.take_of_length_le (by omega)]
  generalize totL psz ps = T1 at *
  generalize totL ksz ks = T2 at *
  have HB1 : Hid (∀ k (x : PairS), ps[k]? = some x → x.key.length ≤ 1000 ∧ x.value.length ≤ 1000) := fun k x hx => hp x (List.mem_of_getElem? hx)
  have HB2 : Hid (∀ k (x : KidS), ks[k]? = some x → x.key.length ≤ 1000) := fun k x hx => hk x (List.mem_of_getElem? hx)
  have HD : Hid (∀ d, Below w.heap.size w (V.drewN d)) := fun d => below_drN kW d
  clear h hl hp hk bV
  go_enter Try.func17, Try.ntmps17
  go_upto_region 1 with fail
  rw [← hV]
  clear hV
  go_wp2_with fail
  go_loopw [3, 4] (fun s i wr => ∃ k : Nat, k ≤ pn ∧ i = .int .i64 (k : Int) ∧ (∃ t : Nat, s = .int .i64 ((t : Int) + 3) ∧ Hid (totL psz (ps.take k) = t) ∧ t ≤ k * 3000) ∧ ∃ d, wr = V.drewN d) (fun _ i _ => pn - (intOf i).toNat)
  case atStart => exact ⟨0, Nat.zero_le _, rfl, ⟨0, rfl, rfl, by omega⟩, 0, rfl⟩
  case round =>
    obtain ⟨k, hk, rfl, ⟨t, rfl, HI, ht⟩, d, rfl⟩ := hrel
    by_cases hlt : k < pn
    · have i0 : (k : Int) < (pn : Int) := by omega
      obtain ⟨x, hx⟩ : ∃ x, ps[k]? = some x := ⟨_, List.getElem?_eq_getElem (by omega)⟩
      obtain ⟨b, o, kp, km, kc, vp, vm, vc, ea, c1, c2, hB1, hB2, -, -⟩ := HP.out.cells (Below.refl _ _) hx
      subst ea
      have e1 : x.key.length = km := hB1.1.len
      have e2 : x.value.length = vm := hB2.1.len
      have hb := HB1.out k x hx
      have hT : totL psz (ps.take (k + 1)) = t + (2 + km + vm) := by rw [TP.out k x hx, HI.out, ← e1, ← e2]; rfl
      have HN : Hid (totL psz (ps.take (k + 1)) = t + (2 + km + vm)) := hT
      have j1 : IntKind.i64.wrap ((t : Int) + 3 + 2) = (t : Int) + 3 + 2 := by rw [IntKind.wrap_i64]; omega
      have j2 : IntKind.i64.wrap ((t : Int) + 3 + 2 + (km : Int)) = (t : Int) + 3 + 2 + (km : Int) := by rw [IntKind.wrap_i64]; omega
      have j3 : IntKind.i64.wrap ((t : Int) + 3 + 2 + (km : Int) + (vm : Int)) = ((t + (2 + km + vm) : Nat) : Int) + 3 := by rw [IntKind.wrap_i64]; omega
      have hsm : t + (2 + km + vm) ≤ (k + 1) * 3000 := by omega
      clear HI hx hB1 hB2 e1 e2 hb hT ht
      go_wp2_with fail
      go_quiet (fail)
      go_wp2_with fail
      go_roundw
      case rel => exact ⟨k + 1, by omega, by go_num, ⟨t + (2 + km + vm), by first | rfl | go_num, HN, hsm⟩, _, rfl⟩
      case measure => simp [intOf]; omega
    · have i0 : ¬ (k : Int) < (pn : Int) := by omega
      obtain rfl : k = pn := by omega
      have H1 : Hid (T1 = t) := E1.out.symm.trans HI.out
      have ht100 : t ≤ 300000000 := by omega
      clear HI HP TP HB1 hlt hps
      go_wp2_with fail
      go_loopw [3, 5] (fun s i wr => ∃ k2 : Nat, k2 ≤ qn ∧ i = .int .i64 (k2 : Int) ∧ (∃ t2 : Nat, s = .int .i64 ((t : Int) + 3 + (t2 : Int)) ∧ Hid (totL ksz (ks.take k2) = t2) ∧ t2 ≤ k2 * 3000) ∧ ∃ d, wr = V.drewN d) (fun _ i _ => qn - (intOf i).toNat)
      case atStart => exact ⟨0, Nat.zero_le _, rfl, ⟨0, by first | rfl | go_num, rfl, by omega⟩, _, rfl⟩
      case round =>
        obtain ⟨k2, hk2, rfl, ⟨t2, rfl, HI2, ht2⟩, d2, rfl⟩ := hrel
        by_cases hlt2 : k2 < qn
        · have i1 : (k2 : Int) < (qn : Int) := by omega
          obtain ⟨x, hx⟩ : ∃ x, ks[k2]? = some x := ⟨_, List.getElem?_eq_getElem (by omega)⟩
          obtain ⟨b, o, kp, km, kc, ea, c1, -, -, hB1, -, -⟩ := HK.out.cells (Below.refl _ _) hx
          subst ea
          have e1 : x.key.length = km := hB1.1.len
          have hb := HB2.out k2 x hx
          have HN : Hid (totL ksz (ks.take (k2 + 1)) = t2 + (11 + km)) := by show _ = _; rw [TK.out k2 x hx, HI2.out, ← e1]; rfl
          have j1 : IntKind.i64.wrap ((t : Int) + 3 + (t2 : Int) + 11) = (t : Int) + 3 + (t2 : Int) + 11 := by rw [IntKind.wrap_i64]; omega
          have j3 : IntKind.i64.wrap ((t : Int) + 3 + (t2 : Int) + 11 + (km : Int)) = (t : Int) + 3 + ((t2 + (11 + km) : Nat) : Int) := by rw [IntKind.wrap_i64]; omega
          have hsm : t2 + (11 + km) ≤ (k2 + 1) * 3000 := by omega
          clear HI2 hx hB1 e1 hb ht2 ht
          go_wp2_with fail
          go_roundw
          case rel => exact ⟨k2 + 1, by omega, by go_num, ⟨t2 + (11 + km), by first | rfl | go_num, HN, hsm⟩, _, rfl⟩
          case measure => simp [intOf]; omega
        · have i1 : ¬ (k2 : Int) < (qn : Int) := by omega
          obtain rfl : k2 = qn := by omega
          have H2 : Hid (T2 = t2) := E2.out.symm.trans HI2.out
          clear HI2
          go_wp2_with fail
          go_ret
          exact ⟨by rw [H1.out, H2.out]; exact ret_int (by omega), HD.out _⟩

end Go.Proofs.Ytnmmopneacdgfaa

/-
  The contract of layer 18's reference: Less. No condition.
-/
namespace Go.Proofs.Ytnmmopneacdgfaa
open Go.RowKit
set_option linter.unusedVariables false

theorem cmp_step {l m : List UInt8} {k : Nat} (h1 : k < l.length) (h2 : k < m.length) : Lib.compareBytes (l.drop k) (m.drop k) = if bt l k < bt m k then -1 else if bt m k < bt l k then 1 else Lib.compareBytes (l.drop (k + 1)) (m.drop (k + 1)) := by
  have e1 : l[k]? = some (l.getD k 0) := by rw [List.getD_eq_getElem?_getD, List.getElem?_eq_getElem h1]; rfl
  have e2 : m[k]? = some (m.getD k 0) := by rw [List.getD_eq_getElem?_getD, List.getElem?_eq_getElem h2]; rfl
  rw [drop_at e1, drop_at e2]
  simp only [Lib.compareBytes, UInt8.lt_iff_toNat_lt, bt, Int.ofNat_lt]
theorem cmp_end {l m : List UInt8} {k : Nat} (h1 : k ≤ l.length) (h2 : k ≤ m.length) (h : ¬ (k < l.length ∧ k < m.length)) : decide (Lib.compareBytes (l.drop k) (m.drop k) < 0) = decide ((l.length : Int) < (m.length : Int)) := by
  by_cases e1 : k < l.length
  · have e2 : k = m.length := by omega
    rw [List.drop_of_length_le (l := m) (by omega)]
    cases hd : l.drop k with
    | nil => have := congrArg List.length hd; simp at this; omega
    | cons a tl => simp [Lib.compareBytes]; omega
  · rw [List.drop_of_length_le (l := l) (by omega)]
    cases hd : m.drop k with
    | nil => have := congrArg List.length hd; simp at this; simp [Lib.compareBytes]; omega
    | cons a tl => have := congrArg List.length hd; simp at this; simp [Lib.compareBytes]; omega
theorem sameBl (w : World) {a b : Option Addr} {n c n' c' : Nat} {l m : List UInt8} (ha : Bs w a n c l) (hb : Bs w b n' c' m) : Calls Try.prog 13 #[.slice a n c, .slice b n' c'] w fun e w' => e = .returned (.bool (decide (l = m))) ∧ Below w.heap.size w w' :=
  (rSame w ha hb).mono fun e w' hh => ⟨hh.1, by obtain ⟨k, rfl⟩ := hh.2; exact below_drN (Below.refl _ _) k⟩
def lessB (l m : List UInt8) : Bool := decide (Lib.compareBytes l m < 0)
set_option maxRecDepth 100000 in
set_option maxHeartbeats 4000000 in
theorem rLess (w : World) {a b : Option Addr} {n c n' c' : Nat} {l m : List UInt8} (ha : Bs w a n c l) (hb : Bs w b n' c' m) :
    Calls Try.prog 52 #[.slice a n c, .slice b n' c'] w fun e w' => e = .returned (.bool (lessB l m)) ∧ Below w.heap.size w w' := by
  have h1 := ha.max
  have h2 := hb.max
  have e1 := ha.len
  have e2 := hb.len
  have HA : Hid (∀ k, k < n → ∃ bb o, a = some ⟨bb, o, none⟩ ∧ w.cell? ⟨bb, o + k, none⟩ = some (.int .u8 (bt l k))) := fun k hk => ha.2.2.2.2 k hk
  have HB : Hid (∀ k, k < n' → ∃ bb o, b = some ⟨bb, o, none⟩ ∧ w.cell? ⟨bb, o + k, none⟩ = some (.int .u8 (bt m k))) := fun k hk => hb.2.2.2.2 k hk
  unfold lessB
  have HC : Hid (∀ k, k < n → k < n' → Lib.compareBytes (l.drop k) (m.drop k) = if bt l k < bt m k then -1 else if bt m k < bt l k then 1 else Lib.compareBytes (l.drop (k + 1)) (m.drop (k + 1))) := fun k a b => cmp_step (by omega) (by omega)
  have HE : Hid (∀ k, k ≤ n → k ≤ n' → ¬ (k < n ∧ k < n') → decide (Lib.compareBytes (l.drop k) (m.drop k) < 0) = decide ((n : Int) < (n' : Int))) := fun k a b h => by rw [← e1, ← e2]; exact cmp_end (by omega) (by omega) (by omega)
  have H0 : Hid (Lib.compareBytes l m = Lib.compareBytes (l.drop 0) (m.drop 0)) := rfl
  generalize Lib.compareBytes l m = CB at *
  clear ha hb e1 e2
  go_enter Try.func52, Try.ntmps52
  go_wp2_with fail
  go_loopw [5] (fun i wr => ∃ k : Nat, k ≤ n ∧ k ≤ n' ∧ i = .int .i64 (k : Int) ∧ (∃ d, wr = w.drewN d) ∧ Hid (CB = Lib.compareBytes (l.drop k) (m.drop k))) (fun i _ => n - (intOf i).toNat)
  case atStart => exact ⟨0, Nat.zero_le _, Nat.zero_le _, rfl, ⟨0, rfl⟩, H0.out⟩
  case round =>
    clear H0
    obtain ⟨k, hk, hk', rfl, ⟨d, rfl⟩, HI⟩ := hrel
    by_cases hlt : k < n
    · have i0 : (k : Int) < (n : Int) := by omega
      by_cases hlt' : k < n'
      · have i1 : (k : Int) < (n' : Int) := by omega
        obtain ⟨b1, o1, rfl, c1⟩ := HA.out k hlt
        obtain ⟨b2, o2, rfl, c2⟩ := HB.out k hlt'
        have hs := HC.out k hlt hlt'
        have hx : Hid (CB = if bt l k < bt m k then -1 else if bt m k < bt l k then 1 else Lib.compareBytes (l.drop (k + 1)) (m.drop (k + 1))) := HI.out.trans hs
        generalize bt l k = x at *
        generalize bt m k = y at *
        clear hs HI
        by_cases hq : x = y
        · subst hq
          have HN : Hid (CB = Lib.compareBytes (l.drop (k + 1)) (m.drop (k + 1))) := by show _ = _; rw [hx.out, if_neg (by omega), if_neg (by omega)]
          have hq' : (x != x) = false := by simp
          clear hx
          go_wp2_with fail
          go_quiet (fail)
          go_wp2_with fail
          go_roundw
          case rel => exact ⟨k + 1, by omega, by omega, by go_num, ⟨_, rfl⟩, HN⟩
          case measure => simp [intOf]; omega
        · have hq' : (x != y) = true := by simp [hq]
          by_cases hc : x < y
          · have HN : Hid (decide (CB < 0) = true) := by show _ = _; rw [hx.out, if_pos hc]; rfl
            clear hx hq
            go_wp2_with fail
            go_quiet (fail)
            go_wp2_with fail
            go_quiet (fail)
            go_wp2_with fail
            go_ret
            exact ⟨by rw [HN.out]; simp, (by repeat (first | exact Below.refl _ _ | refine below_drN ?_ _))⟩
          · have HN : Hid (decide (CB < 0) = false) := by show _ = _; rw [hx.out, if_neg hc, if_pos (by omega)]; rfl
            clear hx hq
            go_wp2_with fail
            go_quiet (fail)
            go_wp2_with fail
            go_quiet (fail)
            go_wp2_with fail
            go_ret
            exact ⟨by rw [HN.out]; simp [hc], (by repeat (first | exact Below.refl _ _ | refine below_drN ?_ _))⟩
      · have i1 : ¬ (k : Int) < (n' : Int) := by omega
        have HN : Hid (decide (CB < 0) = decide ((n : Int) < (n' : Int))) := by show _ = _; rw [HI.out]; exact HE.out k hk hk' (by omega)
        clear HI
        go_wp2_with fail
        go_ret
        exact ⟨by rw [HN.out]; simp, below_drN (Below.refl _ _) _⟩
    · have i0 : ¬ (k : Int) < (n : Int) := by omega
      have HN : Hid (decide (CB < 0) = decide ((n : Int) < (n' : Int))) := by show _ = _; rw [HI.out]; exact HE.out k hk hk' (by omega)
      clear HI
      go_wp2_with fail
      go_ret
      exact ⟨by rw [HN.out]; simp, below_drN (Below.refl _ _) _⟩

end Go.Proofs.Ytnmmopneacdgfaa

/-
  Contracts of layer 18's reference: SamePairs, Same, where both are alike. Condition: at most a hundred thousand things.
-/
namespace Go.Proofs.Ytnmmopneacdgfaa
open Go.RowKit
set_option linter.unusedVariables false
set_option maxRecDepth 100000 in
set_option maxHeartbeats 4000000 in
theorem rSamePr (w : World) {A B : Nat → Prop} {a a2 : Option Addr} {n c d : Nat} {l : List PairS} (h1 : SlP A w a n c l) (h2 : SlP B w a2 n d l) (hn : n ≤ 100000) : Calls Try.prog 57 #[.slice a n c, .slice a2 n d] w fun e w' => e = .returned (.bool true) ∧ Below w.heap.size w w' := by
  have hl := h1.len
  have H1 : Hid (SlP A w a n c l) := h1
  have H2 : Hid (SlP B w a2 n d l) := h2
  clear h1 h2
  go_enter Try.func57, Try.ntmps57
  go_wp2_with fail
  go_loopw [5] (fun i wr => ∃ k : Nat, k ≤ n ∧ i = .int .i64 (k : Int) ∧ Below w.heap.size w wr) (fun i _ => n - (intOf i).toNat)
  case atStart => exact ⟨0, Nat.zero_le _, rfl, Below.refl _ _⟩
  case round =>
    obtain ⟨k, hk, rfl, hb⟩ := hrel
    by_cases hlt : k < n
    · have i0 : (k : Int) < (n : Int) := by omega
      obtain ⟨x, hx⟩ : ∃ x, l[k]? = some x := ⟨_, List.getElem?_eq_getElem (by omega)⟩
      obtain ⟨b, o, kp, km, kc, vp, vm, vc, ea, -, -, hB1, hB2, hlb, hrg⟩ := H1.out.cells hb hx
      obtain ⟨b2, o2, lp, lm, lc, up, um, uc, ea2, -, -, hC1, hC2, hlb2, hrg2⟩ := H2.out.cells hb hx
      subst ea ea2
      have Y1 : ∀ u, Grows wr u → u.cell? ⟨b, o + k * 2, none⟩ = some (.slice kp km kc) := fun u hu => rangeB hrg hu hlb 0 _ rfl
      have Y2 : ∀ u, Grows wr u → u.cell? ⟨b2, o2 + k * 2, none⟩ = some (.slice lp lm lc) := fun u hu => rangeB hrg2 hu hlb2 0 _ rfl
      have Y3 : ∀ u, Grows wr u → u.cell? ⟨b, o + k * 2 + 1, none⟩ = some (.slice vp vm vc) := fun u hu => rangeB hrg hu hlb 1 _ rfl
      have Y4 : ∀ u, Grows wr u → u.cell? ⟨b2, o2 + k * 2 + 1, none⟩ = some (.slice up um uc) := fun u hu => rangeB hrg2 hu hlb2 1 _ rfl
      have C1 : Hid (∀ u, Grows wr u → Calls Try.prog 13 #[.slice kp km kc, .slice lp lm lc] u fun e w' => e = .returned (.bool true) ∧ Below u.heap.size u w') := fun u hu => (sameBl u (Bs.below hB1.1 hu (Nat.le_refl _)) (Bs.below hC1.1 hu (Nat.le_refl _))).mono (by rintro e w' ⟨rfl, hb'⟩; exact ⟨by simp, hb'⟩)
      have C2 : Hid (∀ u, Grows wr u → Calls Try.prog 13 #[.slice vp vm vc, .slice up um uc] u fun e w' => e = .returned (.bool true) ∧ Below u.heap.size u w') := fun u hu => (sameBl u (Bs.below hB2.1 hu (Nat.le_refl _)) (Bs.below hC2.1 hu (Nat.le_refl _))).mono (by rintro e w' ⟨rfl, hb'⟩; exact ⟨by simp, hb'⟩)
      clear hB1 hB2 hC1 hC2 hrg hrg2 hx
      go_wp2_with fail
      refine regionG (S := Grows wr) (by kernel_rfl) (Below.refl _ wr).drew ?_
      refine takeG 0 (some 17) (.slice (some ⟨b, o, none⟩) n c) rfl rfl (by kernel_rfl) (by kernel_rfl) (by kernel_rfl) (fun _ _ _ h => h) (ans_plain (by rfl) (fun w _ => rfl)) ?_
      simp only [Act.put, List.setIfInBounds_toArray, List.set_cons_zero, List.set_cons_succ]
      refine takeG 1 (some 18) (.int .i64 (k : Int)) rfl rfl (by kernel_rfl) (by kernel_rfl) (by kernel_rfl) (fun _ _ _ h => h) (ans_plain (by rfl) (fun w _ => rfl)) ?_
      simp only [Act.put, List.setIfInBounds_toArray, List.set_cons_zero, List.set_cons_succ]
      refine takeG 2 (some 19) (.pointer (some ⟨b, o + k * 2, none⟩)) rfl rfl (by kernel_rfl) (by kernel_rfl) (by kernel_rfl) (fun _ _ _ h => h) (ans_plain (by rfl) (fun w _ => by unfold execOp; go_simp)) ?_
      simp only [Act.put, List.setIfInBounds_toArray, List.set_cons_zero, List.set_cons_succ]
      refine takeG 3 (some 20) (.pointer (some ⟨b, o + k * 2, none⟩)) rfl rfl (by kernel_rfl) (by kernel_rfl) (by kernel_rfl) (fun _ _ _ h => h) (ans_plain (by rfl) (fun w _ => by unfold execOp; go_simp)) ?_
      simp only [Act.put, List.setIfInBounds_toArray, List.set_cons_zero, List.set_cons_succ]
      refine takeG 4 (some 21) (.slice kp km kc) rfl rfl (by kernel_rfl) (by kernel_rfl) (by kernel_rfl) (fun _ _ _ h => h) (ans_plain (by rfl) (fun w h => by have hc := Y1 w h; unfold execOp; go_simp)) ?_
      simp only [Act.put, List.setIfInBounds_toArray, List.set_cons_zero, List.set_cons_succ]
      refine takeG 5 (some 22) (.slice (some ⟨b2, o2, none⟩) n d) rfl rfl (by kernel_rfl) (by kernel_rfl) (by kernel_rfl) (fun _ _ _ h => h) (ans_plain (by rfl) (fun w _ => rfl)) ?_
      simp only [Act.put, List.setIfInBounds_toArray, List.set_cons_zero, List.set_cons_succ]
      refine takeG 6 (some 23) (.int .i64 (k : Int)) rfl rfl (by kernel_rfl) (by kernel_rfl) (by kernel_rfl) (fun _ _ _ h => h) (ans_plain (by rfl) (fun w _ => rfl)) ?_
      simp only [Act.put, List.setIfInBounds_toArray, List.set_cons_zero, List.set_cons_succ]
      refine takeG 7 (some 24) (.pointer (some ⟨b2, o2 + k * 2, none⟩)) rfl rfl (by kernel_rfl) (by kernel_rfl) (by kernel_rfl) (fun _ _ _ h => h) (ans_plain (by rfl) (fun w _ => by unfold execOp; go_simp)) ?_
      simp only [Act.put, List.setIfInBounds_toArray, List.set_cons_zero, List.set_cons_succ]
      refine takeG 8 (some 25) (.pointer (some ⟨b2, o2 + k * 2, none⟩)) rfl rfl (by kernel_rfl) (by kernel_rfl) (by kernel_rfl) (fun _ _ _ h => h) (ans_plain (by rfl) (fun w _ => by unfold execOp; go_simp)) ?_
      simp only [Act.put, List.setIfInBounds_toArray, List.set_cons_zero, List.set_cons_succ]
      refine takeG 9 (some 26) (.slice lp lm lc) rfl rfl (by kernel_rfl) (by kernel_rfl) (by kernel_rfl) (fun _ _ _ h => h) (ans_plain (by rfl) (fun w h => by have hc := Y2 w h; unfold execOp; go_simp)) ?_
      simp only [Act.put, List.setIfInBounds_toArray, List.set_cons_zero, List.set_cons_succ]
      refine takeG 10 (some 27) (.bool true) rfl rfl (by kernel_rfl) (by kernel_rfl) (by kernel_rfl) (fun _ _ _ h => h) (ans_fn 13 #[.tmp 21, .tmp 26] #[26, 26] #[.slice kp km kc, .slice lp lm lc] rfl (by rfl) (by rfl) Try.call13 fun u hu => C1.out u hu) ?_
      simp only [Act.put, List.setIfInBounds_toArray, List.set_cons_zero, List.set_cons_succ]
      refine takeG 11 (some 28) (.bool false) rfl rfl (by kernel_rfl) (by kernel_rfl) (by kernel_rfl) (fun _ _ _ h => h) (ans_plain (by rfl) (fun w _ => by unfold execOp; go_simp)) ?_
      simp only [Act.put, List.setIfInBounds_toArray, List.set_cons_zero, List.set_cons_succ]
      refine takeG 12 (some 29) (.bool false) rfl rfl (by kernel_rfl) (by kernel_rfl) (by kernel_rfl) (fun _ _ _ h => h) (ans_plain (by rfl) (fun w _ => rfl)) ?_
      simp only [Act.put, List.setIfInBounds_toArray, List.set_cons_zero, List.set_cons_succ]
      refine takeG 13 (some 30) (.slice (some ⟨b, o, none⟩) n c) rfl rfl (by kernel_rfl) (by kernel_rfl) (by kernel_rfl) (fun _ _ _ h => h) (ans_plain (by rfl) (fun w _ => rfl)) ?_
      simp only [Act.put, List.setIfInBounds_toArray, List.set_cons_zero, List.set_cons_succ]
      refine takeG 14 (some 31) (.int .i64 (k : Int)) rfl rfl (by kernel_rfl) (by kernel_rfl) (by kernel_rfl) (fun _ _ _ h => h) (ans_plain (by rfl) (fun w _ => rfl)) ?_
      simp only [Act.put, List.setIfInBounds_toArray, List.set_cons_zero, List.set_cons_succ]
      refine takeG 15 (some 32) (.pointer (some ⟨b, o + k * 2, none⟩)) rfl rfl (by kernel_rfl) (by kernel_rfl) (by kernel_rfl) (fun _ _ _ h => h) (ans_plain (by rfl) (fun w _ => by unfold execOp; go_simp)) ?_
      simp only [Act.put, List.setIfInBounds_toArray, List.set_cons_zero, List.set_cons_succ]
      refine takeG 16 (some 33) (.pointer (some ⟨b, o + k * 2 + 1, none⟩)) rfl rfl (by kernel_rfl) (by kernel_rfl) (by kernel_rfl) (fun _ _ _ h => h) (ans_plain (by rfl) (fun w _ => by unfold execOp; go_simp)) ?_
      simp only [Act.put, List.setIfInBounds_toArray, List.set_cons_zero, List.set_cons_succ]
      refine takeG 17 (some 34) (.slice vp vm vc) rfl rfl (by kernel_rfl) (by kernel_rfl) (by kernel_rfl) (fun _ _ _ h => h) (ans_plain (by rfl) (fun w h => by have hc := Y3 w h; unfold execOp; go_simp)) ?_
      simp only [Act.put, List.setIfInBounds_toArray, List.set_cons_zero, List.set_cons_succ]
      refine takeG 18 (some 35) (.slice (some ⟨b2, o2, none⟩) n d) rfl rfl (by kernel_rfl) (by kernel_rfl) (by kernel_rfl) (fun _ _ _ h => h) (ans_plain (by rfl) (fun w _ => rfl)) ?_
      simp only [Act.put, List.setIfInBounds_toArray, List.set_cons_zero, List.set_cons_succ]
      refine takeG 19 (some 36) (.int .i64 (k : Int)) rfl rfl (by kernel_rfl) (by kernel_rfl) (by kernel_rfl) (fun _ _ _ h => h) (ans_plain (by rfl) (fun w _ => rfl)) ?_
      simp only [Act.put, List.setIfInBounds_toArray, List.set_cons_zero, List.set_cons_succ]
      refine takeG 20 (some 37) (.pointer (some ⟨b2, o2 + k * 2, none⟩)) rfl rfl (by kernel_rfl) (by kernel_rfl) (by kernel_rfl) (fun _ _ _ h => h) (ans_plain (by rfl) (fun w _ => by unfold execOp; go_simp)) ?_
      simp only [Act.put, List.setIfInBounds_toArray, List.set_cons_zero, List.set_cons_succ]
      refine takeG 21 (some 38) (.pointer (some ⟨b2, o2 + k * 2 + 1, none⟩)) rfl rfl (by kernel_rfl) (by kernel_rfl) (by kernel_rfl) (fun _ _ _ h => h) (ans_plain (by rfl) (fun w _ => by unfold execOp; go_simp)) ?_
      simp only [Act.put, List.setIfInBounds_toArray, List.set_cons_zero, List.set_cons_succ]
      refine takeG 22 (some 39) (.slice up um uc) rfl rfl (by kernel_rfl) (by kernel_rfl) (by kernel_rfl) (fun _ _ _ h => h) (ans_plain (by rfl) (fun w h => by have hc := Y4 w h; unfold execOp; go_simp)) ?_
      simp only [Act.put, List.setIfInBounds_toArray, List.set_cons_zero, List.set_cons_succ]
      refine takeG 23 (some 40) (.bool true) rfl rfl (by kernel_rfl) (by kernel_rfl) (by kernel_rfl) (fun _ _ _ h => h) (ans_fn 13 #[.tmp 34, .tmp 39] #[26, 26] #[.slice vp vm vc, .slice up um uc] rfl (by rfl) (by rfl) Try.call13 fun u hu => C2.out u hu) ?_
      simp only [Act.put, List.setIfInBounds_toArray, List.set_cons_zero, List.set_cons_succ]
      refine takeG 24 (some 41) (.bool false) rfl rfl (by kernel_rfl) (by kernel_rfl) (by kernel_rfl) (fun _ _ _ h => h) (ans_plain (by rfl) (fun w _ => by unfold execOp; go_simp)) ?_
      simp only [Act.put, List.setIfInBounds_toArray, List.set_cons_zero, List.set_cons_succ]
      refine takeG 25 (some 42) (.bool false) rfl rfl (by kernel_rfl) (by kernel_rfl) (by kernel_rfl) (fun _ _ _ h => h) (ans_plain (by rfl) (fun w _ => by unfold execOp; go_simp)) ?_
      simp only [Act.put, List.setIfInBounds_toArray, List.set_cons_zero, List.set_cons_succ]
      refine doneG (by kernel_rfl) fun v6 hg_v6 hs_v6 => ?_
      have k7 : Below w.heap.size w v6 := hb.trans (Below.mono hs_v6 hb.size)
      clear C1 C2 Y1 Y2 Y3 Y4
      go_wp2_with fail
      go_roundw
      case rel => exact ⟨k + 1, by omega, by go_num, k7⟩
      case measure => simp [intOf]; omega
    · have i0 : ¬ (k : Int) < (n : Int) := by omega
      go_wp2_with fail
      go_ret
      exact ⟨rfl, hb⟩
set_option maxRecDepth 100000 in
set_option maxHeartbeats 4000000 in
theorem rSameN (w : World) {A B : Nat → Prop} {N : NodeS} {p q r s : Tri} (h1 : Nd A w N p q) (h2 : Nd B w N r s) (hn : N.pairs.length ≤ 100000) (hm : N.kids.length ≤ 100000) : Calls Try.prog 18 #[ndv N p q, ndv N r s] w fun e w' => e = .returned (.bool true) ∧ Below w.heap.size w w' := by
  have l1 := h1.lp
  have l2 := h1.lk
  have m1 := h2.lp
  have m2 := h2.lk
  have hp1 := h1.ps
  have hp2 := h2.ps
  have hk1 := h1.ks
  have hk2 := h2.ks
  obtain ⟨lf, ps, ks⟩ := N
  obtain ⟨pa, pn, pc⟩ := p
  obtain ⟨qa, n, c⟩ := q
  obtain ⟨ra, rn, rc⟩ := r
  obtain ⟨sa, sn, d⟩ := s
  dsimp only at *
  obtain rfl : pn = rn := by omega
  obtain rfl : n = sn := by omega
  unfold ndv ndc
  dsimp only
  obtain ⟨V, hV⟩ : ∃ V, V = (w.alloc (.cells (List.toArray [.bool lf, .slice pa pn pc, .slice qa n c]) 25)).alloc (.cells (List.toArray [.bool lf, .slice ra pn rc, .slice sa n d]) 25) := ⟨_, rfl⟩
  have t1 : Blk V w.heap.size [.bool lf, .slice pa pn pc, .slice qa n c] 25 := by rw [hV]; exact (Blk.newAt w _ _ w.heap.size rfl _ rfl).old _
  have t2 : Blk V (w.heap.size + 1) [.bool lf, .slice ra pn rc, .slice sa n d] 25 := by rw [hV]; exact Blk.newAt (w.alloc _) _ _ (w.heap.size + 1) (by simp) _ rfl
  have kV : Below w.heap.size w V := by rw [hV]; exact below2 _ _ _
  have hW : ∀ u, Below V.heap.size V u → Below w.heap.size w u := fun u hu => kV.trans (hu.mono kV.size)
  have CP : Hid (Calls Try.prog 57 #[.slice pa pn pc, .slice ra pn rc] V fun e w' => e = .returned (.bool true) ∧ Below V.heap.size V w') := rSamePr V (hp1.below kV) (hp2.below kV) (by omega)
  have H1 : Hid (SlD A V qa n c ks) := hk1.below kV
  have H2 : Hid (SlD B V sa n d ks) := hk2.below kV
  have x0 : V.cell? ⟨w.heap.size, 0, none⟩ = some (.bool lf) := t1.cell 0
  have x1 : V.cell? ⟨w.heap.size, 1, none⟩ = some (.slice pa pn pc) := t1.cell 1
  have x2 : V.cell? ⟨w.heap.size, 2, none⟩ = some (.slice qa n c) := t1.cell 2
  have y0 : V.cell? ⟨w.heap.size + 1, 0, none⟩ = some (.bool lf) := t2.cell 0
  have y1 : V.cell? ⟨w.heap.size + 1, 1, none⟩ = some (.slice ra pn rc) := t2.cell 1
  have y2 : V.cell? ⟨w.heap.size + 1, 2, none⟩ = some (.slice sa n d) := t2.cell 2
  have HZ1 : Hid (∀ u, Below V.heap.size V u → u.cell? ⟨w.heap.size, 2, none⟩ = some (.slice qa n c)) := fun u hu => (t1.below hu t1.lt).cell 2
  have HZ2 : Hid (∀ u, Below V.heap.size V u → u.cell? ⟨w.heap.size + 1, 2, none⟩ = some (.slice sa n d)) := fun u hu => (t2.below hu t2.lt).cell 2
  have nn : ((n : Int) != (n : Int)) = false := by simp
  have ll : (lf != lf) = false := by simp
  clear h1 h2 hp1 hp2 hk1 hk2 t1 t2
  go_enter Try.func18, Try.ntmps18
  go_upto_region 1 with fail
  rw [← hV]
  clear hV
  go_wp2_with fail
  refine CP.out.mono ?_
  rintro e V1 ⟨rfl, g1⟩
  have z1 := HZ1.out V1 g1
  have z2 := HZ2.out V1 g1
  clear x0 x1 x2 y0 y1 y2 CP
  go_wp2_with fail
  go_loopw [5] (fun i wr => ∃ k : Nat, k ≤ n ∧ i = .int .i64 (k : Int) ∧ Below V.heap.size V wr) (fun i _ => n - (intOf i).toNat)
  case atStart => exact ⟨0, Nat.zero_le _, rfl, g1⟩
  case round =>
    clear z1 z2
    obtain ⟨k, hk, rfl, hb⟩ := hrel
    have z1 := HZ1.out wr hb
    by_cases hlt : k < n
    · have i0 : (k : Int) < (n : Int) := by omega
      obtain ⟨x, hx⟩ : ∃ x, ks[k]? = some x := ⟨_, List.getElem?_eq_getElem (by omega)⟩
      obtain ⟨b, o, kp, km, kc, ea, -, -, -, hB1, hlb, hrg⟩ := H1.out.cells hb hx
      obtain ⟨b2, o2, lp, lm, lc, ea2, -, -, -, hC1, hlb2, hrg2⟩ := H2.out.cells hb hx
      subst ea ea2
      have Z1 : ∀ u, Grows wr u → u.cell? ⟨w.heap.size, 2, none⟩ = some (.slice (some ⟨b, o, none⟩) n c) := fun u hu => HZ1.out u (hb.trans (Below.mono hu hb.size))
      have Z2 : ∀ u, Grows wr u → u.cell? ⟨w.heap.size + 1, 2, none⟩ = some (.slice (some ⟨b2, o2, none⟩) n d) := fun u hu => HZ2.out u (hb.trans (Below.mono hu hb.size))
      have Y1 : ∀ u, Grows wr u → u.cell? ⟨b, o + k * 3 + 1, none⟩ = some (.int .i64 x.page) := fun u hu => rangeB hrg hu hlb 1 _ rfl
      have Y2 : ∀ u, Grows wr u → u.cell? ⟨b2, o2 + k * 3 + 1, none⟩ = some (.int .i64 x.page) := fun u hu => rangeB hrg2 hu hlb2 1 _ rfl
      have Y3 : ∀ u, Grows wr u → u.cell? ⟨b, o + k * 3 + 2, none⟩ = some (.int .i64 x.epoch) := fun u hu => rangeB hrg hu hlb 2 _ rfl
      have Y4 : ∀ u, Grows wr u → u.cell? ⟨b2, o2 + k * 3 + 2, none⟩ = some (.int .i64 x.epoch) := fun u hu => rangeB hrg2 hu hlb2 2 _ rfl
      have Y5 : ∀ u, Grows wr u → u.cell? ⟨b, o + k * 3, none⟩ = some (.slice kp km kc) := fun u hu => rangeB hrg hu hlb 0 _ rfl
      have Y6 : ∀ u, Grows wr u → u.cell? ⟨b2, o2 + k * 3, none⟩ = some (.slice lp lm lc) := fun u hu => rangeB hrg2 hu hlb2 0 _ rfl
      have C1 : Hid (∀ u, Grows wr u → Calls Try.prog 13 #[.slice kp km kc, .slice lp lm lc] u fun e w' => e = .returned (.bool true) ∧ Below u.heap.size u w') := fun u hu => (sameBl u (Bs.below hB1.1 hu (Nat.le_refl _)) (Bs.below hC1.1 hu (Nat.le_refl _))).mono (by rintro e w' ⟨rfl, hb'⟩; exact ⟨by simp, hb'⟩)
      clear hB1 hC1 hrg hrg2 hx
      go_wp2_with fail
      refine regionG (S := Grows wr) (by kernel_rfl) (Below.refl _ wr).drew ?_
      refine takeG 0 (some 35) (.pointer (some ⟨w.heap.size, 2, none⟩)) rfl rfl (by kernel_rfl) (by kernel_rfl) (by kernel_rfl) (fun _ _ _ h => h) (ans_plain (by rfl) (fun w _ => by unfold execOp; go_simp)) ?_
      simp only [Act.put, List.setIfInBounds_toArray, List.set_cons_zero, List.set_cons_succ]
      refine takeG 1 (some 36) (.slice (some ⟨b, o, none⟩) n c) rfl rfl (by kernel_rfl) (by kernel_rfl) (by kernel_rfl) (fun _ _ _ h => h) (ans_plain (by rfl) (fun w h => by have hc := Z1 w h; unfold execOp; go_simp)) ?_
      simp only [Act.put, List.setIfInBounds_toArray, List.set_cons_zero, List.set_cons_succ]
      refine takeG 2 (some 37) (.int .i64 (k : Int)) rfl rfl (by kernel_rfl) (by kernel_rfl) (by kernel_rfl) (fun _ _ _ h => h) (ans_plain (by rfl) (fun w _ => rfl)) ?_
      simp only [Act.put, List.setIfInBounds_toArray, List.set_cons_zero, List.set_cons_succ]
      refine takeG 3 (some 38) (.pointer (some ⟨b, o + k * 3, none⟩)) rfl rfl (by kernel_rfl) (by kernel_rfl) (by kernel_rfl) (fun _ _ _ h => h) (ans_plain (by rfl) (fun w _ => by unfold execOp; go_simp)) ?_
      simp only [Act.put, List.setIfInBounds_toArray, List.set_cons_zero, List.set_cons_succ]
      refine takeG 4 (some 39) (.pointer (some ⟨b, o + k * 3 + 1, none⟩)) rfl rfl (by kernel_rfl) (by kernel_rfl) (by kernel_rfl) (fun _ _ _ h => h) (ans_plain (by rfl) (fun w _ => by unfold execOp; go_simp)) ?_
      simp only [Act.put, List.setIfInBounds_toArray, List.set_cons_zero, List.set_cons_succ]
      refine takeG 5 (some 40) (.int .i64 x.page) rfl rfl (by kernel_rfl) (by kernel_rfl) (by kernel_rfl) (fun _ _ _ h => h) (ans_plain (by rfl) (fun w h => by have hc := Y1 w h; unfold execOp; go_simp)) ?_
      simp only [Act.put, List.setIfInBounds_toArray, List.set_cons_zero, List.set_cons_succ]
      refine takeG 6 (some 41) (.pointer (some ⟨(w.heap.size + 1), 2, none⟩)) rfl rfl (by kernel_rfl) (by kernel_rfl) (by kernel_rfl) (fun _ _ _ h => h) (ans_plain (by rfl) (fun w _ => by unfold execOp; go_simp)) ?_
      simp only [Act.put, List.setIfInBounds_toArray, List.set_cons_zero, List.set_cons_succ]
      refine takeG 7 (some 42) (.slice (some ⟨b2, o2, none⟩) n d) rfl rfl (by kernel_rfl) (by kernel_rfl) (by kernel_rfl) (fun _ _ _ h => h) (ans_plain (by rfl) (fun w h => by have hc := Z2 w h; unfold execOp; go_simp)) ?_
      simp only [Act.put, List.setIfInBounds_toArray, List.set_cons_zero, List.set_cons_succ]
      refine takeG 8 (some 43) (.int .i64 (k : Int)) rfl rfl (by kernel_rfl) (by kernel_rfl) (by kernel_rfl) (fun _ _ _ h => h) (ans_plain (by rfl) (fun w _ => rfl)) ?_
      simp only [Act.put, List.setIfInBounds_toArray, List.set_cons_zero, List.set_cons_succ]
      refine takeG 9 (some 44) (.pointer (some ⟨b2, o2 + k * 3, none⟩)) rfl rfl (by kernel_rfl) (by kernel_rfl) (by kernel_rfl) (fun _ _ _ h => h) (ans_plain (by rfl) (fun w _ => by unfold execOp; go_simp)) ?_
      simp only [Act.put, List.setIfInBounds_toArray, List.set_cons_zero, List.set_cons_succ]
      refine takeG 10 (some 45) (.pointer (some ⟨b2, o2 + k * 3 + 1, none⟩)) rfl rfl (by kernel_rfl) (by kernel_rfl) (by kernel_rfl) (fun _ _ _ h => h) (ans_plain (by rfl) (fun w _ => by unfold execOp; go_simp)) ?_
      simp only [Act.put, List.setIfInBounds_toArray, List.set_cons_zero, List.set_cons_succ]
      refine takeG 11 (some 46) (.int .i64 x.page) rfl rfl (by kernel_rfl) (by kernel_rfl) (by kernel_rfl) (fun _ _ _ h => h) (ans_plain (by rfl) (fun w h => by have hc := Y2 w h; unfold execOp; go_simp)) ?_
      simp only [Act.put, List.setIfInBounds_toArray, List.set_cons_zero, List.set_cons_succ]
      refine takeG 12 (some 47) (.bool false) rfl rfl (by kernel_rfl) (by kernel_rfl) (by kernel_rfl) (fun _ _ _ h => h) (ans_plain (by rfl) (fun w _ => by unfold execOp; go_simp)) ?_
      simp only [Act.put, List.setIfInBounds_toArray, List.set_cons_zero, List.set_cons_succ]
      refine takeG 13 (some 48) (.bool false) rfl rfl (by kernel_rfl) (by kernel_rfl) (by kernel_rfl) (fun _ _ _ h => h) (ans_plain (by rfl) (fun w _ => rfl)) ?_
      simp only [Act.put, List.setIfInBounds_toArray, List.set_cons_zero, List.set_cons_succ]
      refine takeG 14 (some 49) (.pointer (some ⟨w.heap.size, 2, none⟩)) rfl rfl (by kernel_rfl) (by kernel_rfl) (by kernel_rfl) (fun _ _ _ h => h) (ans_plain (by rfl) (fun w _ => by unfold execOp; go_simp)) ?_
      simp only [Act.put, List.setIfInBounds_toArray, List.set_cons_zero, List.set_cons_succ]
      refine takeG 15 (some 50) (.slice (some ⟨b, o, none⟩) n c) rfl rfl (by kernel_rfl) (by kernel_rfl) (by kernel_rfl) (fun _ _ _ h => h) (ans_plain (by rfl) (fun w h => by have hc := Z1 w h; unfold execOp; go_simp)) ?_
      simp only [Act.put, List.setIfInBounds_toArray, List.set_cons_zero, List.set_cons_succ]
      refine takeG 16 (some 51) (.int .i64 (k : Int)) rfl rfl (by kernel_rfl) (by kernel_rfl) (by kernel_rfl) (fun _ _ _ h => h) (ans_plain (by rfl) (fun w _ => rfl)) ?_
      simp only [Act.put, List.setIfInBounds_toArray, List.set_cons_zero, List.set_cons_succ]
      refine takeG 17 (some 52) (.pointer (some ⟨b, o + k * 3, none⟩)) rfl rfl (by kernel_rfl) (by kernel_rfl) (by kernel_rfl) (fun _ _ _ h => h) (ans_plain (by rfl) (fun w _ => by unfold execOp; go_simp)) ?_
      simp only [Act.put, List.setIfInBounds_toArray, List.set_cons_zero, List.set_cons_succ]
      refine takeG 18 (some 53) (.pointer (some ⟨b, o + k * 3 + 2, none⟩)) rfl rfl (by kernel_rfl) (by kernel_rfl) (by kernel_rfl) (fun _ _ _ h => h) (ans_plain (by rfl) (fun w _ => by unfold execOp; go_simp)) ?_
      simp only [Act.put, List.setIfInBounds_toArray, List.set_cons_zero, List.set_cons_succ]
      refine takeG 19 (some 54) (.int .i64 x.epoch) rfl rfl (by kernel_rfl) (by kernel_rfl) (by kernel_rfl) (fun _ _ _ h => h) (ans_plain (by rfl) (fun w h => by have hc := Y3 w h; unfold execOp; go_simp)) ?_
      simp only [Act.put, List.setIfInBounds_toArray, List.set_cons_zero, List.set_cons_succ]
      refine takeG 20 (some 55) (.pointer (some ⟨(w.heap.size + 1), 2, none⟩)) rfl rfl (by kernel_rfl) (by kernel_rfl) (by kernel_rfl) (fun _ _ _ h => h) (ans_plain (by rfl) (fun w _ => by unfold execOp; go_simp)) ?_
      simp only [Act.put, List.setIfInBounds_toArray, List.set_cons_zero, List.set_cons_succ]
      refine takeG 21 (some 56) (.slice (some ⟨b2, o2, none⟩) n d) rfl rfl (by kernel_rfl) (by kernel_rfl) (by kernel_rfl) (fun _ _ _ h => h) (ans_plain (by rfl) (fun w h => by have hc := Z2 w h; unfold execOp; go_simp)) ?_
      simp only [Act.put, List.setIfInBounds_toArray, List.set_cons_zero, List.set_cons_succ]
      refine takeG 22 (some 57) (.int .i64 (k : Int)) rfl rfl (by kernel_rfl) (by kernel_rfl) (by kernel_rfl) (fun _ _ _ h => h) (ans_plain (by rfl) (fun w _ => rfl)) ?_
      simp only [Act.put, List.setIfInBounds_toArray, List.set_cons_zero, List.set_cons_succ]
      refine takeG 23 (some 58) (.pointer (some ⟨b2, o2 + k * 3, none⟩)) rfl rfl (by kernel_rfl) (by kernel_rfl) (by kernel_rfl) (fun _ _ _ h => h) (ans_plain (by rfl) (fun w _ => by unfold execOp; go_simp)) ?_
      simp only [Act.put, List.setIfInBounds_toArray, List.set_cons_zero, List.set_cons_succ]
      refine takeG 24 (some 59) (.pointer (some ⟨b2, o2 + k * 3 + 2, none⟩)) rfl rfl (by kernel_rfl) (by kernel_rfl) (by kernel_rfl) (fun _ _ _ h => h) (ans_plain (by rfl) (fun w _ => by unfold execOp; go_simp)) ?_
      simp only [Act.put, List.setIfInBounds_toArray, List.set_cons_zero, List.set_cons_succ]
      refine takeG 25 (some 60) (.int .i64 x.epoch) rfl rfl (by kernel_rfl) (by kernel_rfl) (by kernel_rfl) (fun _ _ _ h => h) (ans_plain (by rfl) (fun w h => by have hc := Y4 w h; unfold execOp; go_simp)) ?_
      simp only [Act.put, List.setIfInBounds_toArray, List.set_cons_zero, List.set_cons_succ]
      refine takeG 26 (some 61) (.bool false) rfl rfl (by kernel_rfl) (by kernel_rfl) (by kernel_rfl) (fun _ _ _ h => h) (ans_plain (by rfl) (fun w _ => by unfold execOp; go_simp)) ?_
      simp only [Act.put, List.setIfInBounds_toArray, List.set_cons_zero, List.set_cons_succ]
      refine takeG 27 (some 62) (.bool false) rfl rfl (by kernel_rfl) (by kernel_rfl) (by kernel_rfl) (fun _ _ _ h => h) (ans_plain (by rfl) (fun w _ => by unfold execOp; go_simp)) ?_
      simp only [Act.put, List.setIfInBounds_toArray, List.set_cons_zero, List.set_cons_succ]
      refine takeG 28 (some 63) (.bool false) rfl rfl (by kernel_rfl) (by kernel_rfl) (by kernel_rfl) (fun _ _ _ h => h) (ans_plain (by rfl) (fun w _ => rfl)) ?_
      simp only [Act.put, List.setIfInBounds_toArray, List.set_cons_zero, List.set_cons_succ]
      refine takeG 29 (some 64) (.pointer (some ⟨w.heap.size, 2, none⟩)) rfl rfl (by kernel_rfl) (by kernel_rfl) (by kernel_rfl) (fun _ _ _ h => h) (ans_plain (by rfl) (fun w _ => by unfold execOp; go_simp)) ?_
      simp only [Act.put, List.setIfInBounds_toArray, List.set_cons_zero, List.set_cons_succ]
      refine takeG 30 (some 65) (.slice (some ⟨b, o, none⟩) n c) rfl rfl (by kernel_rfl) (by kernel_rfl) (by kernel_rfl) (fun _ _ _ h => h) (ans_plain (by rfl) (fun w h => by have hc := Z1 w h; unfold execOp; go_simp)) ?_
      simp only [Act.put, List.setIfInBounds_toArray, List.set_cons_zero, List.set_cons_succ]
      refine takeG 31 (some 66) (.int .i64 (k : Int)) rfl rfl (by kernel_rfl) (by kernel_rfl) (by kernel_rfl) (fun _ _ _ h => h) (ans_plain (by rfl) (fun w _ => rfl)) ?_
      simp only [Act.put, List.setIfInBounds_toArray, List.set_cons_zero, List.set_cons_succ]
      refine takeG 32 (some 67) (.pointer (some ⟨b, o + k * 3, none⟩)) rfl rfl (by kernel_rfl) (by kernel_rfl) (by kernel_rfl) (fun _ _ _ h => h) (ans_plain (by rfl) (fun w _ => by unfold execOp; go_simp)) ?_
      simp only [Act.put, List.setIfInBounds_toArray, List.set_cons_zero, List.set_cons_succ]
      refine takeG 33 (some 68) (.pointer (some ⟨b, o + k * 3, none⟩)) rfl rfl (by kernel_rfl) (by kernel_rfl) (by kernel_rfl) (fun _ _ _ h => h) (ans_plain (by rfl) (fun w _ => by unfold execOp; go_simp)) ?_
      simp only [Act.put, List.setIfInBounds_toArray, List.set_cons_zero, List.set_cons_succ]
      refine takeG 34 (some 69) (.slice kp km kc) rfl rfl (by kernel_rfl) (by kernel_rfl) (by kernel_rfl) (fun _ _ _ h => h) (ans_plain (by rfl) (fun w h => by have hc := Y5 w h; unfold execOp; go_simp)) ?_
      simp only [Act.put, List.setIfInBounds_toArray, List.set_cons_zero, List.set_cons_succ]
      refine takeG 35 (some 70) (.pointer (some ⟨(w.heap.size + 1), 2, none⟩)) rfl rfl (by kernel_rfl) (by kernel_rfl) (by kernel_rfl) (fun _ _ _ h => h) (ans_plain (by rfl) (fun w _ => by unfold execOp; go_simp)) ?_
      simp only [Act.put, List.setIfInBounds_toArray, List.set_cons_zero, List.set_cons_succ]
      refine takeG 36 (some 71) (.slice (some ⟨b2, o2, none⟩) n d) rfl rfl (by kernel_rfl) (by kernel_rfl) (by kernel_rfl) (fun _ _ _ h => h) (ans_plain (by rfl) (fun w h => by have hc := Z2 w h; unfold execOp; go_simp)) ?_
      simp only [Act.put, List.setIfInBounds_toArray, List.set_cons_zero, List.set_cons_succ]
      refine takeG 37 (some 72) (.int .i64 (k : Int)) rfl rfl (by kernel_rfl) (by kernel_rfl) (by kernel_rfl) (fun _ _ _ h => h) (ans_plain (by rfl) (fun w _ => rfl)) ?_
      simp only [Act.put, List.setIfInBounds_toArray, List.set_cons_zero, List.set_cons_succ]
      refine takeG 38 (some 73) (.pointer (some ⟨b2, o2 + k * 3, none⟩)) rfl rfl (by kernel_rfl) (by kernel_rfl) (by kernel_rfl) (fun _ _ _ h => h) (ans_plain (by rfl) (fun w _ => by unfold execOp; go_simp)) ?_
      simp only [Act.put, List.setIfInBounds_toArray, List.set_cons_zero, List.set_cons_succ]
      refine takeG 39 (some 74) (.pointer (some ⟨b2, o2 + k * 3, none⟩)) rfl rfl (by kernel_rfl) (by kernel_rfl) (by kernel_rfl) (fun _ _ _ h => h) (ans_plain (by rfl) (fun w _ => by unfold execOp; go_simp)) ?_
      simp only [Act.put, List.setIfInBounds_toArray, List.set_cons_zero, List.set_cons_succ]
      refine takeG 40 (some 75) (.slice lp lm lc) rfl rfl (by kernel_rfl) (by kernel_rfl) (by kernel_rfl) (fun _ _ _ h => h) (ans_plain (by rfl) (fun w h => by have hc := Y6 w h; unfold execOp; go_simp)) ?_
      simp only [Act.put, List.setIfInBounds_toArray, List.set_cons_zero, List.set_cons_succ]
      refine takeG 41 (some 76) (.bool true) rfl rfl (by kernel_rfl) (by kernel_rfl) (by kernel_rfl) (fun _ _ _ h => h) (ans_fn 13 #[.tmp 69, .tmp 75] #[26, 26] #[.slice kp km kc, .slice lp lm lc] rfl (by rfl) (by rfl) Try.call13 fun u hu => C1.out u hu) ?_
      simp only [Act.put, List.setIfInBounds_toArray, List.set_cons_zero, List.set_cons_succ]
      refine takeG 42 (some 77) (.bool false) rfl rfl (by kernel_rfl) (by kernel_rfl) (by kernel_rfl) (fun _ _ _ h => h) (ans_plain (by rfl) (fun w _ => by unfold execOp; go_simp)) ?_
      simp only [Act.put, List.setIfInBounds_toArray, List.set_cons_zero, List.set_cons_succ]
      refine takeG 43 (some 78) (.bool false) rfl rfl (by kernel_rfl) (by kernel_rfl) (by kernel_rfl) (fun _ _ _ h => h) (ans_plain (by rfl) (fun w _ => by unfold execOp; go_simp)) ?_
      simp only [Act.put, List.setIfInBounds_toArray, List.set_cons_zero, List.set_cons_succ]
      refine doneG (by kernel_rfl) fun v6 hg_v6 hs_v6 => ?_
      have k7 : Below V.heap.size V v6 := hb.trans (Below.mono hs_v6 hb.size)
      clear C1 Y1 Y2 Y3 Y4 Y5 Y6 Z1 Z2
      go_wp2_with fail
      go_roundw
      case rel => exact ⟨k + 1, by omega, by go_num, k7⟩
      case measure => simp [intOf]; omega
    · have i0 : ¬ (k : Int) < (n : Int) := by omega
      go_wp2_with fail
      go_ret
      exact ⟨rfl, hW wr hb⟩

end Go.Proofs.Ytnmmopneacdgfaa
