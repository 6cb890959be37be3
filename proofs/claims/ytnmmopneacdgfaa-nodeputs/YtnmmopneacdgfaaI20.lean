/-
  1 texts in one. No statement of the seat is proved here.
-/
import Derived.Test.YtnmmopneacdgfaaI19
import Derived.Deep.CutBlock
/-
  The contract of layer 18's reference: Get. No condition.
-/
namespace Go.Proofs.Ytnmmopneacdgfaa
open Go.RowKit
set_option linter.unusedVariables false
theorem rN_take {l : List UInt8} {k : Nat} (h : k ≤ l.length) : rN (l, 0) (k : Int) = (l.drop k, 0) ∧ rB (l, 0) (k : Int) = l.take k := by
  unfold rN rB rdBytes
  dsimp only
  rw [if_neg (by simp), if_neg (by omega)]
  exact ⟨rfl, rfl⟩
theorem rV_head {b : List UInt8} {x : UInt8} (h : b[0]? = some x) : rV (b, 0) 1 = x.toNat := by
  have hl : 1 ≤ b.length := (List.getElem?_eq_some_iff.1 h).1
  have e := (rN_take (k := 1) hl).2
  have e1 : rB (b, 0) 1 = [x] := e.trans (by rw [List.take_add_one, h]; rfl)
  unfold rV
  rw [e1]
  unfold getN
  have := x.toNat_lt
  simp only [List.foldl]
  omega
theorem rN_one {b : List UInt8} (h : b.length = 496) : rN (b, 0) 1 = (b.drop 1, 0) := (rN_take (k := 1) (by omega)).1
theorem body_drop {b : List UInt8} (h : b.length = 496) : bodyR b = (b.drop 3, 0) := by
  unfold bodyR
  rw [rN_one h]
  have e := (rN_take (l := b.drop 1) (k := 2) (by simp; omega)).1
  rw [List.drop_drop] at e
  exact e
theorem cntB_eq {b : List UInt8} (h : b.length = 496) : cntB b = getN ((b.drop 1).take 2) := by
  unfold cntB rV
  rw [rN_one h]
  have e := (rN_take (l := b.drop 1) (k := 2) (by simp; omega)).2
  exact congrArg getN e
theorem resCT18 {fn : Func} {p t : Tmp} {ty : TypeId} (h : fn.results = #[.cell p ty, .tmp t]) (tmps : Array Value) (w : World) (g : Nat) (cs : Array Value) (hp : tmps.getD p undef = .pointer (some ⟨g, 0, none⟩)) (hl : (loadVar ty ⟨g, 0, none⟩).run Try.prog w = .ok (.agg cs) w) (x : Value) (hx : tmps.getD t undef = x) : (results fn tmps).run Try.prog w = .ok (.tuple #[.agg cs, x]) w := by
  have hp' : tmps[p]?.getD undef = .pointer (some ⟨g, 0, none⟩) := by simpa using hp
  have hx' : tmps[t]?.getD undef = x := by simpa using hx
  simp [results, h, hp', hx', asAddr, hl]
def GotR18 (w : World) (o : NodeS × Int) (e : Ending) (w' : World) : Prop := ∃ p q, e = .returned (.tuple #[ndv o.1 p q, .int .i64 o.2]) ∧ Nd (fun _ => True) w' o.1 p q ∧ Below w.heap.size w w'
theorem boxN18 (u : World) (g : Nat) (vs : List Value) (hv : vs.length = 3) (hg : g = u.heap.size) {W : World} (hW : W = (u.alloc (.cells #[.bool false, .slice none 0 0, .slice none 0 0] 25)).setCells g 0 vs) : Below u.heap.size u W ∧ Blk W g vs 25 := by
  subst hg hW
  exact ⟨below_sets (Nat.le_refl _) _ (below_alloc _ _) 0, Blk.setsW (Blk.newAt u _ _ _ rfl _ rfl) vs hv⟩
theorem kid_i64 (s : RdS) : i64 (kidR s).page ∧ i64 (kidR s).epoch := by
  have h1 := rV2 (rN s 1)
  have h2 : 0 ≤ (kidR s).epoch ∧ (kidR s).epoch ≤ 4611686018427387904 := by
    show 0 ≤ cap62 _ ∧ cap62 _ ≤ _
    unfold cap62
    split <;> omega
  have h3 : (kidR s).page = (rV (rN s 1) 2 : Nat) := rfl
  rw [h3]
  unfold i64
  omega
theorem zNd_one : ∀ v ∈ zNd, v.oneCell' = true := by
  intro v hv
  simp only [zNd, List.mem_cons, List.not_mem_nil, or_false] at hv
  rcases hv with rfl | rfl | rfl <;> rfl
set_option maxRecDepth 100000 in
set_option maxHeartbeats 8000000 in
theorem rGetS (w : World) {a : Option Addr} {n c : Nat} {b : List UInt8} (hb : Bs w a n c b) (hz : b.length ≠ 496) : Calls Try.prog 12 #[.slice a n c] w (GotR18 w (getNd b)) := by
  have hn : ¬ (n : Int) = 496 := by have := hb.len; omega
  have HO : getNd b = (zeroN, 17) := if_neg hz
  obtain ⟨W0, hW0⟩ : ∃ W0, W0 = w.alloc (.cells #[.bool false, .slice none 0 0, .slice none 0 0] 25) := ⟨_, rfl⟩
  have Z : Blk W0 w.heap.size zNd 25 := by rw [hW0]; exact Blk.newAt w _ _ w.heap.size rfl _ rfl
  have k : Below w.heap.size w W0 := by rw [hW0]; exact below_alloc _ _
  have b1 : ((n : Int) == 496) = false := by simpa using hn
  have b2 : ((n : Int) != 496) = true := by simpa using hn
  generalize getNd b = out at *
  subst HO
  clear hb hz
  go_enter Try.func12, Try.ntmps12
  go_upto_region 1 with fail
  rw [← hW0]
  clear hW0
  go_wp2_with ((with_reducible refine at_st 25 ?_); (with_reducible refine Hid.out ?_))
  unfold Hid
  refine st' 25 (.tmp 2) (.tmp 17) 3 sizeNd w.heap.size 0 zNd rfl zNd_one (Z.there 0 3 (by decide)) rfl rfl ?_
  intro x9 hx9
  have b9 : Blk x9 w.heap.size zNd 25 := by rw [hx9]; exact Z.setsW _ rfl
  have k9 : Below w.heap.size w x9 := by rw [hx9]; exact below_sets (Nat.le_refl _) _ k 0
  clear hx9
  go_wp2_with fail
  refine bodyPost_ret (v := .tuple #[ndv zeroN T0 T0, .int .i64 17]) (resCT18 Try.results12 _ _ w.heap.size _ rfl (run_loadVar_row x9 w.heap.size 25 25 _ (0, 0) _ b9 Try.underlying25 rfl sizeNd) _ rfl) rfl ?_
  exact ⟨T0, T0, rfl, Nd.zero _ _, k9⟩
set_option maxRecDepth 100000 in
set_option maxHeartbeats 8000000 in
theorem rGetF (w : World) {a : Option Addr} {n c : Nat} {b : List UInt8} {x : UInt8} (hb : Bs w a n c b) (hz : b.length = 496) (hx : b[0]? = some x) (h1 : 1 < x.toNat) : Calls Try.prog 12 #[.slice a n c] w (GotR18 w (getNd b)) := by
  have HO : getNd b = (zeroN, 4) := by
    unfold getNd
    rw [if_pos hz, rV_head hx, if_neg (by omega)]
  have hn : n = 496 := by have := hb.len; omega
  subst hn
  obtain ⟨W0, hW0⟩ : ∃ W0, W0 = w.alloc (.cells #[.bool false, .slice none 0 0, .slice none 0 0] 25) := ⟨_, rfl⟩
  have Z : Blk W0 w.heap.size zNd 25 := by rw [hW0]; exact Blk.newAt w _ _ w.heap.size rfl _ rfl
  have k : Below w.heap.size w W0 := by rw [hW0]; exact below_alloc _ _
  have HB : Hid (Bs w a 496 c b) := hb
  obtain ⟨ba, o, ea, hlt, hcell⟩ := (hb.below k (Nat.le_refl _)).at (by omega)
  subst ea
  have c0 : W0.cell? ⟨ba, o, none⟩ = some (.int .u8 (x.toNat : Int)) := by
    have e : bt b 0 = (x.toNat : Int) := by unfold bt; rw [List.getD_eq_getElem?_getD, hx]; rfl
    rw [← e]
    exact hcell 0 (by omega)
  have h2 : (1 : Int) < (x.toNat : Int) := by omega
  generalize getNd b = out at *
  subst HO
  generalize x.toNat = xn at *
  clear hb hz hx hcell HB
  go_enter Try.func12, Try.ntmps12
  go_upto_region 1 with fail
  rw [← hW0]
  clear hW0
  go_wp2_with ((with_reducible refine at_st 25 ?_); (with_reducible refine Hid.out ?_))
  unfold Hid
  refine st' 25 (.tmp 2) (.tmp 22) 3 sizeNd w.heap.size 0 zNd rfl zNd_one (Z.there 0 3 (by decide)) rfl rfl ?_
  intro x9 hx9
  have b9 : Blk x9 w.heap.size zNd 25 := by rw [hx9]; exact Z.setsW _ rfl
  have k9 : Below w.heap.size w x9 := by rw [hx9]; exact below_sets (Nat.le_refl _) _ k 0
  clear hx9
  go_wp2_with fail
  refine bodyPost_ret (v := .tuple #[ndv zeroN T0 T0, .int .i64 4]) (resCT18 Try.results12 _ _ w.heap.size _ rfl (run_loadVar_row x9 w.heap.size 25 25 _ (0, 0) _ b9 Try.underlying25 rfl sizeNd) _ rfl) rfl ?_
  exact ⟨T0, T0, rfl, Nd.zero _ _, k9⟩
set_option maxRecDepth 100000 in
set_option maxHeartbeats 8000000 in
theorem rGetL (w : World) {a : Option Addr} {n c : Nat} {b : List UInt8} (hb : Bs w a n c b) (hz : b.length = 496) (hx : b[0]? = some 1) : Calls Try.prog 12 #[.slice a n c] w (GotR18 w (getNd b)) := by
  have hv1 : rV (b, 0) 1 = 1 := rV_head hx
  have HR : Hid (nodR b = ⟨true, sevK pairR restP (cntR restP (cntB b) (bodyR b)) (bodyR b), []⟩) := by
    show nodR b = _
    unfold nodR leafR
    rw [hv1]
    rfl
  have HT : Hid (nodT b = itR restP (cntR restP (cntB b) (bodyR b)) (bodyR b)) := by
    show nodT b = _
    unfold nodT leafR
    rw [hv1]
    rfl
  have HG : Hid (getNd b = if (nodT b).2 = 0 then (if zeroB (nodT b).1 = true then (if chkN (nodR b) = 0 then (nodR b, 0) else (zeroN, chkN (nodR b))) else (zeroN, 4)) else (zeroN, (nodT b).2)) := by
    show getNd b = _
    unfold getNd
    rw [if_pos hz, hv1, if_pos (by decide)]
  have HL : Hid (Lit (nodR b)) := nodR_lit b
  have hcl : cntB b ≤ 65535 := rV2 _
  have hs0 := body_drop hz
  have hc0 := cntB_eq hz
  have hn : n = 496 := by have := hb.len; omega
  subst hn
  obtain ⟨W0, hW0⟩ : ∃ W0, W0 = w.alloc (.cells #[.bool false, .slice none 0 0, .slice none 0 0] 25) := ⟨_, rfl⟩
  have Z : Blk W0 w.heap.size zNd 25 := by rw [hW0]; exact Blk.newAt w _ _ w.heap.size rfl _ rfl
  have k : Below w.heap.size w W0 := by rw [hW0]; exact below_alloc _ _
  have HB : Hid (Bs w a 496 c b) := hb
  obtain ⟨ba, o, ea, hlt, hcell⟩ := (hb.below k (Nat.le_refl _)).at (by omega)
  subst ea
  have c0 : W0.cell? ⟨ba, o, none⟩ = some (.int .u8 1) := by
    have e : bt b 0 = 1 := by unfold bt; rw [List.getD_eq_getElem?_getD, hx]; rfl
    rw [← e]
    exact hcell 0 (by omega)
  obtain ⟨ta, tc, hsl, hT0, -⟩ := hb.cutLow 3 (by omega)
  obtain ⟨ua, uc, hsm, hU0⟩ := hb.cut2 1 3 (by omega) (by omega)
  have hsl : ∀ w, Sem.run Try.prog (Instr.slice 26 (.slice (some ⟨ba, o, none⟩) 496 c) (some (.int .i64 3)) none none) w = .ok (.slice ta 493 tc) w := hsl
  have hsm : ∀ w, Sem.run Try.prog (Instr.slice 26 (.slice (some ⟨ba, o, none⟩) 496 c) (some (.int .i64 1)) (some (.int .i64 3)) none) w = .ok (.slice ua 2 uc) w := hsm
  obtain ⟨s0, es0⟩ : ∃ s0, bodyR b = s0 := ⟨_, rfl⟩
  obtain ⟨cnt, ecnt⟩ : ∃ cnt, cntB b = cnt := ⟨_, rfl⟩
  rw [es0] at HR HT hs0
  rw [ecnt] at HR HT hcl hc0
  have HT0 : Hid (∀ W, Bs W (some ⟨ba, o, none⟩) 496 c b → Bs W ta 493 tc s0.1) := by
    show ∀ W, _
    rw [hs0]
    exact fun W h => hT0 W h
  have HU0 : Hid (∀ W, Bs W (some ⟨ba, o, none⟩) 496 c b → Bs W ua 2 uc ((b.drop 1).take 2)) := fun W h => hU0 W h
  have H02 : Hid (s0.2 = 0) := by show _ = _; rw [hs0]
  have HC0 : Hid (cnt = getN ((b.drop 1).take 2)) := hc0
  have HB0 : Hid (Bs w (some ⟨ba, o, none⟩) 496 c b) := HB
  generalize getNd b = out at *
  clear hb hz hx hcell HB hv1 hs0 hc0 hT0 hU0 es0 ecnt
  go_enter Try.func12, Try.ntmps12
  go_upto_region 1 with fail
  rw [← hW0]
  clear hW0
  go_wp2_with ((with_reducible refine at_st 25 ?_); (with_reducible refine Hid.out ?_))
  unfold Hid
  refine st' 25 (.tmp 4) (.tmp 27) 3 sizeNd W0.heap.size 0 [.bool true, .slice none 0 0, .slice none 0 0] rfl (by intro u hu; simp only [List.mem_cons, List.not_mem_nil, or_false] at hu; rcases hu with rfl | rfl | rfl <;> rfl) ((Blk.newAt W0 _ _ _ rfl _ rfl : Blk _ W0.heap.size [.bool false, .slice none 0 0, .slice none 0 0] 25).there 0 3 (by decide)) rfl rfl ?_
  intro W1 hW
  obtain ⟨kb, Y⟩ := boxN18 W0 _ [.bool true, .slice none 0 0, .slice none 0 0] rfl rfl hW
  clear hW c0
  obtain ⟨g4, hg4⟩ : ∃ g, g = W0.heap.size := ⟨_, rfl⟩
  rw [← hg4] at Y ⊢
  have hg04 : w.heap.size < g4 := by rw [hg4]; exact Z.lt
  clear hg4
  replace Z := Z.below kb Z.lt
  replace k := k.trans (kb.mono k.size)
  clear kb
  go_wp2_with ((with_reducible refine at_st 65 ?_); (with_reducible refine Hid.out ?_))
  unfold Hid
  refine st' 65 (.tmp 5) (.tmp 30) 2 sizeRd18 W1.heap.size 0 (rcR ta 493 tc 0) rfl (rcR_one _ _ _ _) ((Blk.newAt W1 _ _ _ rfl _ rfl : Blk _ W1.heap.size [.slice none 0 0, .int .i64 0] 65).there 0 2 (by decide)) rfl rfl ?_
  intro W2 hW
  obtain ⟨kb, R⟩ := boxR18 W1 _ (rcR ta 493 tc 0) rfl rfl hW
  clear hW hsl
  obtain ⟨g5, hg5⟩ : ∃ g, g = W1.heap.size := ⟨_, rfl⟩
  rw [← hg5] at R ⊢
  have hg45 : g4 < g5 := by rw [hg5]; exact Y.lt
  clear hg5
  replace Z := Z.below kb Z.lt
  replace Y := Y.below kb Y.lt
  replace k := k.trans (kb.mono k.size)
  clear kb
  go_wp2_with (go_at_call 40; (with_reducible refine Hid.out ?_))
  unfold Hid
  refine (rGet W2 (HU0.out W2 (HB0.out.below k (Nat.le_refl _)))).mono ?_
  rintro e W2x ⟨rfl, rfl⟩
  rw [← HC0.out]
  clear hsm HU0 HC0
  have wc : IntKind.i64.wrap (cnt : Int) = (cnt : Int) := by rw [IntKind.wrap_i64]; omega
  have R0 : Blk W2 g5 (rcR ta 493 tc (itR restP 0 s0).2) 65 := by rw [show (itR restP 0 s0).2 = 0 from H02.out]; exact R
  have OS0 : Hid (OwS (elPr fun j => j < w.heap.size) 2 44 W2 (g5 + 1) (.slice none 0 0) (sevK pairR restP 0 s0)) := OwS.nil _ _ _ _ _
  have lR : g5 + 1 ≤ W2.heap.size := R.lt
  clear R
  go_wp2_with fail
  clear wc
  go_loopw [7] (fun v wr => ∃ (k : Nat) (ra : Option Addr) (rn rc : Nat) (pa : Option Addr) (pn pc : Nat), k ≤ cnt ∧ v = .int .i64 (k : Int) ∧ Hid (∀ i, i < k → (itR restP i s0).2 = 0) ∧ Hid (∀ W, Bs W (some ⟨ba, o, none⟩) 496 c b → Bs W ra rn rc (itR restP k s0).1) ∧ Blk wr w.heap.size zNd 25 ∧ Blk wr g4 [.bool true, .slice pa pn pc, .slice none 0 0] 25 ∧ Blk wr g5 (rcR ra rn rc (itR restP k s0).2) 65 ∧ Hid (OwS (elPr fun j => j < w.heap.size) 2 44 wr (g5 + 1) (.slice pa pn pc) (sevK pairR restP k s0)) ∧ Below w.heap.size w wr ∧ g5 + 1 ≤ wr.heap.size) (fun v _ => cnt - (intOf v).toNat)
  case atStart => exact ⟨0, ta, 493, tc, none, 0, 0, Nat.zero_le _, rfl, fun i hi => absurd hi (Nat.not_lt_zero _), HT0, Z, Y, R0, OS0, k, lR⟩
  case round =>
    clear HT0 Z Y R0 OS0 k lR
    obtain ⟨j, ra, rn, rc, pa, pn, pc, hj, rfl, HZ, T, Z, Y, R, OS, k, lR⟩ := hrel
    obtain ⟨sj, hsj⟩ : ∃ sj, itR restP j s0 = sj := ⟨_, rfl⟩
    rw [hsj] at T R
    have r1 : wr.cell? ⟨g5, 1, none⟩ = some (.int .i64 sj.2) := R.cell 1
    have lR5 := R.lt
    by_cases hgo : j < cnt ∧ sj.2 = 0
    · obtain ⟨hlt, h0⟩ := hgo
      obtain ⟨sl, sc⟩ := sj
      dsimp only at h0 T R r1
      subst h0
      have i0 : (j : Int) < (cnt : Int) := by omega
      have HZN : Hid (∀ i, i < j + 1 → (itR restP i s0).2 = 0) := fun i hi => by
        by_cases e : i = j
        · rw [e, hsj]
        · exact HZ.out i (by omega)
      have hnx : itR restP (j + 1) s0 = restP (sl, 0) := by show restP (itR restP j s0) = _; rw [hsj]
      have hsv : sevK pairR restP (j + 1) s0 = sevK pairR restP j s0 ++ [pairR (sl, 0)] := by show _ ++ [pairR (itR restP j s0)] = _; rw [hsj]
      have y0 : wr.cell? ⟨g4, 0, none⟩ = some (.bool true) := Y.cell 0
      have lY := Y.lt
      have HSV : Hid (sevK pairR restP (j + 1) s0 = sevK pairR restP j s0 ++ [pairR (sl, 0)]) := hsv
      have HNX : Hid (itR restP (j + 1) s0 = restP (sl, 0)) := hnx
      have hln : (sevK pairR restP j s0).length = j := sevK_len _ _ _ _
      generalize sevK pairR restP j s0 = LL at *
      obtain ⟨LN, hLN⟩ : ∃ LN, LN = sevK pairR restP (j + 1) s0 := ⟨_, rfl⟩
      obtain ⟨SN, hSN⟩ : ∃ SN, SN = itR restP (j + 1) s0 := ⟨_, rfl⟩
      rw [← hLN] at HSV
      rw [← hSN] at HNX
      have HLN : Hid (LN = sevK pairR restP (j + 1) s0) := hLN
      have HSN : Hid (SN = itR restP (j + 1) s0) := hSN
      clear hLN hSN
      clear hsv hnx HZ hsj
      go_wp2_with (first | ((with_reducible refine at_ld 65 ?_); (refine ld 65 (.tmp 5) 2 sizeRd18 _ Try.underlying65 rfl g5 0 (rcR ra rn rc 0) rfl R.whole rfl ?_)) | (go_at_call 41; (with_reducible refine Hid.out ?_)))
      unfold Hid
      refine (rPairN wr (s := (sl, 0)) (T.out wr (HB0.out.below k (Nat.le_refl _)))).mono ?_
      rintro e V1 ⟨ra2, rn2, rc2, kp, km, kc, vp, vm, vc, rfl, hT2, hK, hV, kb⟩
      have T2 : Hid (∀ W, Bs W (some ⟨ba, o, none⟩) 496 c b → Bs W ra2 rn2 rc2 (restP (sl, 0)).1) := fun W h => hT2 W (T.out W h)
      have KB : BA (fun j => j < w.heap.size) w kp km kc (pairR (sl, 0)).key := bs_old (hK w (T.out w HB0.out))
      have VB : BA (fun j => j < w.heap.size) w vp vm vc (pairR (sl, 0)).value := bs_old (hV w (T.out w HB0.out))
      clear hT2 hK hV r1 y0 T
      replace Z := Z.below kb Z.lt
      replace Y := Y.below kb Y.lt
      replace R := R.below kb R.lt
      replace OS : OwS (elPr fun j => j < w.heap.size) 2 44 V1 (g5 + 1) (.slice pa pn pc) LL := OwS.keep OS.out (elPr.keep kb.size fun j hj _ => kb.block j hj) (fun j hj => kb.block j (OS.out.lt j hj).2)
      replace k := k.trans (kb.mono k.size)
      replace lR := Nat.le_trans lR kb.size
      clear kb lR5 lY
      go_wp2_with ((with_reducible refine at_st 65 ?_); (with_reducible refine Hid.out ?_))
      unfold Hid
      obtain ⟨U, hU⟩ : ∃ U, U = (V1.alloc (.cells #[.slice none 0 0, .int .i64 0] 65)).alloc (.cells #[.slice none 0 0, .slice none 0 0] 44) := ⟨_, rfl⟩
      rw [← hU]
      have tA : Blk U V1.heap.size [.slice none 0 0, .int .i64 0] 65 := by rw [hU]; exact (Blk.newAt V1 _ _ _ rfl _ rfl).old _
      have tB : Blk U (V1.heap.size + 1) [.slice none 0 0, .slice none 0 0] 44 := by rw [hU]; exact Blk.newAt (V1.alloc _) _ _ _ (by simp) _ rfl
      have kU : Below V1.heap.size V1 U := by rw [hU]; exact (below_alloc V1 _).alloc (by simp) _
      clear hU
      refine st' 65 (.tmp 8) (.tmp 50) 2 sizeRd18 V1.heap.size 0 (rcR ra2 rn2 rc2 (restP (sl, 0)).2) rfl (rcR_one _ _ _ _) (tA.there 0 2 (by decide)) rfl rfl ?_
      intro V2 hW
      have tA2 : Blk V2 V1.heap.size (rcR ra2 rn2 rc2 (restP (sl, 0)).2) 65 := by rw [hW]; exact tA.setsW _ rfl
      have tB2 : Blk V2 (V1.heap.size + 1) [.slice none 0 0, .slice none 0 0] 44 := by rw [hW]; exact Blk.setsO (by omega) _ tB 0
      have kV2 : Below V1.heap.size V1 V2 := by rw [hW]; exact below_sets (Nat.le_refl _) _ kU 0
      clear hW tA tB kU
      go_wp2_with ((with_reducible refine at_st 44 ?_); (with_reducible refine Hid.out ?_))
      unfold Hid
      refine st' 44 (.tmp 9) (.tmp 51) 2 sizePr (V1.heap.size + 1) 0 [.slice kp km kc, .slice vp vm vc] rfl (by intro u hu; simp only [List.mem_cons, List.not_mem_nil, or_false] at hu; rcases hu with rfl | rfl <;> rfl) (tB2.there 0 2 (by decide)) rfl rfl ?_
      intro V3 hW
      have tA3 : Blk V3 V1.heap.size (rcR ra2 rn2 rc2 (restP (sl, 0)).2) 65 := by rw [hW]; exact Blk.setsO (by omega) _ tA2 0
      have tB3 : Blk V3 (V1.heap.size + 1) [.slice kp km kc, .slice vp vm vc] 44 := by rw [hW]; exact tB2.setsW _ rfl
      have kV3 : Below V1.heap.size V1 V3 := by rw [hW]; exact below_sets (by omega) _ kV2 0
      clear hW tA2 tB2 kV2
      obtain ⟨g8, hg8⟩ : ∃ g, g = V1.heap.size := ⟨_, rfl⟩
      have lg8 : g5 + 1 ≤ g8 := by rw [hg8]; exact lR
      replace Z := Z.below kV3 Z.lt
      replace Y := Y.below kV3 Y.lt
      replace R := R.below kV3 R.lt
      replace OS : OwS (elPr fun j => j < w.heap.size) 2 44 V3 (g5 + 1) (.slice pa pn pc) LL := OwS.keep OS (elPr.keep kV3.size fun j hj _ => kV3.block j hj) (fun j hj => kV3.block j (OS.lt j hj).2)
      replace k := k.trans (kV3.mono k.size)
      replace lR := Nat.le_trans lR kV3.size
      rw [← hg8] at tA3 tB3 ⊢
      clear kV3 hg8
      go_wp2_with (first | ((with_reducible refine at_ld 65 ?_); (refine ld 65 (.tmp 8) 2 sizeRd18 _ Try.underlying65 rfl g8 0 (rcR ra2 rn2 rc2 (restP (sl, 0)).2) rfl tA3.whole rfl ?_)) | ((with_reducible refine at_st 65 ?_); (with_reducible refine Hid.out ?_)))
      unfold Hid
      refine st' 65 (.tmp 5) (.tmp 52) 2 sizeRd18 g5 0 (rcR ra2 rn2 rc2 (restP (sl, 0)).2) rfl (rcR_one _ _ _ _) (R.there 0 2 (by simp [rcR])) rfl rfl ?_
      intro V4 hW
      have R4 : Blk V4 g5 (rcR ra2 rn2 rc2 (restP (sl, 0)).2) 65 := by rw [hW]; exact R.setsW _ rfl
      have kp4 : Kp (fun j => j = g5) V3 V4 := by rw [hW]; exact Kp.of_grown (but_cells' _ _ _ _)
      clear hW R tA3
      have Z4 : Blk V4 w.heap.size zNd 25 := kp4.blk Z (by omega)
      have Y4 : Blk V4 g4 [.bool true, .slice pa pn pc, .slice none 0 0] 25 := kp4.blk Y (by omega)
      have B4 : Blk V4 (g8 + 1) [.slice kp km kc, .slice vp vm vc] 44 := kp4.blk tB3 (by omega)
      have OS4 : OwS (elPr fun j => j < w.heap.size) 2 44 V4 (g5 + 1) (.slice pa pn pc) LL := OwS.keep OS (elPr.keep kp4.size fun j hj hA => kp4.block j hj (by omega)) (fun j hj => kp4.block j (OS.lt j hj).2 (by have := (OS.lt j hj).1; omega))
      have k4 : Below w.heap.size w V4 := below_kp k kp4 k.size (fun j hj e => by omega)
      have l4 : g5 + 1 ≤ V4.heap.size := Nat.le_trans lR kp4.size
      clear kp4 Z Y OS k lR tB3
      have y1 : V4.cell? ⟨g4, 1, none⟩ = some (.slice pa pn pc) := Y4.cell 1
      have lY4 := Y4.lt
      go_wp2_with (first | ((with_reducible refine at_ld 44 ?_); (refine ld 44 (.tmp 9) 2 sizePr _ Try.underlying44 rfl (g8 + 1) 0 [.slice kp km kc, .slice vp vm vc] rfl B4.whole rfl ?_)) | (at_builtin; (with_reducible refine Hid.out ?_)))
      unfold Hid
      obtain ⟨V5, hV5⟩ : ∃ V5, V5 = V4.alloc (.cells #[.slice kp km kc, .slice vp vm vc] 44) := ⟨_, rfl⟩
      rw [← hV5]
      have b5 : Blk V5 V4.heap.size [.slice kp km kc, .slice vp vm vc] 44 := by rw [hV5]; exact Blk.newAt V4 _ _ _ rfl _ rfl
      have kb : Below V4.heap.size V4 V5 := by rw [hV5]; exact below_alloc _ _
      clear hV5 y1 lY4 B4
      replace Z4 := Z4.below kb Z4.lt
      replace Y4 := Y4.below kb Y4.lt
      replace R4 := R4.below kb R4.lt
      replace OS4 : OwS (elPr fun j => j < w.heap.size) 2 44 V5 (g5 + 1) (.slice pa pn pc) LL := OwS.keep OS4 (elPr.keep kb.size fun j hj _ => kb.block j hj) (fun j hj => kb.block j (OS4.lt j hj).2)
      replace k4 := k4.trans (kb.mono k4.size)
      replace l4 := Nat.le_trans l4 kb.size
      clear kb
      have er : Row (elPr fun j => j < w.heap.size) 2 V5 (pairR (sl, 0)) [.slice kp km kc, .slice vp vm vc] := elPr.row ⟨kp, km, kc, vp, vm, vc, rfl, KB.keep k4.size (fun j hj _ => k4.block j hj), VB.keep k4.size (fun j hj _ => k4.block j hj)⟩
      have src : Sl (elPr fun j => j < w.heap.size) 2 (fun _ => True) V5 (some ⟨V4.heap.size, 0, none⟩) 1 1 [pairR (sl, 0)] := Sl.one b5 er trivial
      have hz5 : LL.length + [pairR (sl, 0)].length ≤ 1000000 := by rw [hln]; simp; omega
      refine wpList_slapp (elPr fun j => j < w.heap.size) 2 48 22 44 _ Try.underlying22 infoPr rfl (by decide) (by decide) V5 rfl (.tmp 54) (.tmp 56) rfl (g5 + 1) (.slice pa pn pc) LL rfl OS4 (fun _ => True) (some ⟨V4.heap.size, 0, none⟩) 1 1 [pairR (sl, 0)] rfl src hz5 l4 (fun w' y vs hg hy => elPr.keep hg.size (fun j hj ha => hg.block j hj (fun e => by have := (OS4.lt j e.symm).1; omega)) y vs hy) ?_
      intro v8 V6 o8 g8x
      obtain ⟨a9, m9, c9, rfl, hm9⟩ := o8.shape
      have off : ∀ g, g < g5 + 1 → (some g : Option Nat) ≠ (Value.slice pa pn pc).ownBlock := fun g hg e => by have := (OS4.lt g e.symm).1; omega
      have Z6 : Blk V6 w.heap.size zNd 25 := by unfold Blk; rw [g8x.block _ Z4.lt (off _ (by omega))]; exact Z4
      have Y6 : Blk V6 g4 [.bool true, .slice pa pn pc, .slice none 0 0] 25 := by unfold Blk; rw [g8x.block _ Y4.lt (off _ (by omega))]; exact Y4
      have R6 : Blk V6 g5 (rcR ra2 rn2 rc2 (restP (sl, 0)).2) 65 := by unfold Blk; rw [g8x.block _ R4.lt (off _ (by omega))]; exact R4
      have k6 : Below w.heap.size w V6 := k4.grown g8x k4.size (fun j hj => by have := (OS4.lt j hj).1; omega)
      have l6 : g5 + 1 ≤ V6.heap.size := Nat.le_trans l4 g8x.size
      clear g8x off OS4 Z4 Y4 R4 k4 l4 src er b5 hz5
      have d6 : V6.cell? ⟨g4, 1, none⟩ = some (.slice pa pn pc) := Y6.cell 1
      have f6 := Y6.free 1
      have lY6 := Y6.lt
      go_wp2_with fail
      have ks : Kp (fun j => j = g4) V6 (V6.setCell ⟨g4, 1, none⟩ (.slice a9 m9 c9)) := Kp.setC (F := fun j => j = g4) rfl _ _
      have Z7 := ks.blk Z6 (by omega)
      have Y7 : Blk (V6.setCell ⟨g4, 1, none⟩ (.slice a9 m9 c9)) g4 [.bool true, .slice a9 m9 c9, .slice none 0 0] 25 := Y6.setC 1 (.slice a9 m9 c9)
      have R7 := ks.blk R6 (by omega)
      have OS7 : Hid (OwS (elPr fun j => j < w.heap.size) 2 44 (V6.setCell ⟨g4, 1, none⟩ (.slice a9 m9 c9)) (g5 + 1) (.slice a9 m9 c9) LN) := by
        show OwS _ _ _ _ _ _ _
        rw [HSV.out]
        exact OwS.keep o8 (elPr.keep ks.size fun j hj hA => ks.block j hj (by omega)) (fun j hj => ks.block j (o8.lt j hj).2 (by have := (o8.lt j hj).1; omega))
      have k7 := below_kp k6 ks k6.size (fun j hj e => by omega)
      have l7 : g5 + 1 ≤ (V6.setCell ⟨g4, 1, none⟩ (.slice a9 m9 c9)).heap.size := Nat.le_trans l6 ks.size
      have T7 : Hid (∀ W, Bs W (some ⟨ba, o, none⟩) 496 c b → Bs W ra2 rn2 rc2 SN.1) := by show ∀ W, _; rw [HNX.out]; exact T2.out
      rw [← HNX.out] at R7
      clear ks Z6 Y6 R6 o8 k6 l6 d6 f6 lY6 T2 KB VB HNX HSV
      rw [HSN.out] at T7 R7
      rw [HLN.out] at OS7
      clear HSN HLN
      go_roundw
      case rel => exact ⟨j + 1, ra2, rn2, rc2, a9, m9, c9, by omega, by go_num, HZN, T7, Z7, Y7, R7, OS7, k7, l7⟩
      case measure => simp [intOf]; omega
    · have hstop : j = cnt ∨ (itR restP j s0).2 ≠ 0 := by
        rw [hsj]
        by_cases e : j < cnt
        · exact Or.inr fun h => hgo ⟨e, h⟩
        · exact Or.inl (by omega)
      have hcj : cntR restP cnt s0 = j := cntR_stop restP hj HZ.out hstop
      rw [hcj] at HR HT
      rw [hsj] at HT
      have HND : Hid (Nd (fun j => j ≠ w.heap.size) wr (nodR b) ⟨pa, pn, pc⟩ T0) := by
        show Nd _ _ _ _ _
        rw [HR.out]
        exact ⟨Sl.mono (OwS.sl3 (A := fun j => j ≠ w.heap.size) OS.out (fun j hj _ => by omega)) (elPr.mono fun j _ hj => by omega) (fun _ _ h => h), Sl.nil _ _ _ _⟩
      have HY : Hid (ndc (nodR b) ⟨pa, pn, pc⟩ T0 = [.bool true, .slice pa pn pc, .slice none 0 0]) := by show _ = _; rw [HR.out]; rfl
      rw [← HY.out] at Y
      rw [HT.out] at HG
      have CC : Hid (∀ u, Below wr.heap.size wr u → Calls Try.prog 15 #[.agg (ndc (nodR b) ⟨pa, pn, pc⟩ T0).toArray] u fun e w' => e = .returned (.int .i64 (chkN (nodR b))) ∧ Below u.heap.size u w') := fun u hu => rCheckN u (HND.out.below hu) HL.out
      generalize nodR b = NN at *
      obtain ⟨cd, hcd⟩ : ∃ cd, chkN NN = cd := ⟨_, rfl⟩
      rw [hcd] at CC HG
      clear HR HT HY HL OS HZ hcd hcj hstop
      have r0 : wr.cell? ⟨g5, 0, none⟩ = some (.slice ra rn rc) := R.cell 0
      have BT : Bs wr ra rn rc sj.1 := T.out wr (HB0.out.below k (Nat.le_refl _))
      obtain ⟨sl, sc⟩ := sj
      dsimp only at *
      clear T hsj H02
      by_cases h0 : sc = 0
      · subst h0
        have i0 : ¬ (j : Int) < (cnt : Int) := by
          intro h
          exact hgo ⟨by omega, rfl⟩
        clear hgo
        have hmx := BT.max
        have HG2 : Hid (out = if zeroB sl = true then (if cd = 0 then (NN, 0) else (zeroN, cd)) else (zeroN, 4)) := by show _ = _; rw [HG.out]; exact if_pos rfl
        clear HG
        go_wp2_with fail
        clear r1 i0
        rename World => wo
        go_loop [12] (fun i => ∃ m : Nat, m ≤ rn ∧ i = .int .i64 (m : Int) ∧ Hid (zeroB sl = zeroB (sl.drop m))) (fun i => rn - (intOf i).toNat)
        case atStart => exact ⟨0, Nat.zero_le _, rfl, rfl⟩
        case round =>
          obtain ⟨m, hm, rfl, HI⟩ := hrel
          by_cases hlt2 : m < rn
          · have i1 : (m : Int) < (rn : Int) := by omega
            obtain ⟨x, hx⟩ : ∃ x, sl[m]? = some x := ⟨_, List.getElem?_eq_getElem (by have := BT.len; omega)⟩
            have hd := zeroB_drop hx
            obtain ⟨b2, o2, ea, hc⟩ := BT.2.2.2.2 m hlt2
            have ex : bt sl m = (x.toNat : Int) := by unfold bt; rw [List.getD_eq_getElem?_getD, hx]; rfl
            rw [ex] at hc
            have ea : ra = some ⟨b2, o2, none⟩ := ea
            subst ea
            by_cases hx0 : x = 0
            · subst hx0
              have hc : wo.cell? ⟨b2, o2 + m, none⟩ = some (.int .u8 0) := hc
              have HN : Hid (zeroB sl = zeroB (sl.drop (m + 1))) := by show _ = _; rw [HI.out, hd]; rfl
              have lb := lt_of_cell hc
              clear hd HI hx ex
              go_wp2_with fail
              go_round
              case rel => exact ⟨m + 1, by omega, by go_num, HN⟩
              case measure => simp [intOf]; omega
            · have hxn : ¬ (x.toNat : Int) = 0 := fun e => hx0 (UInt8.toNat_inj.1 (by simpa using e))
              have hx1 : ((x.toNat : Int) == 0) = false := by simpa using hxn
              have hx2 : ((x.toNat : Int) != 0) = true := by simpa using hxn
              have HO : Hid (out = (zeroN, 4)) := by
                show _ = _
                rw [HG2.out, HI.out, hd, if_neg]
                rw [show (x == 0) = false from by simpa using hx0]
                simp
              have lb := lt_of_cell hc
              generalize x.toNat = xn at *
              clear hd HI hx ex HG2 hx0
              go_wp2_with ((with_reducible refine at_st 25 ?_); (with_reducible refine Hid.out ?_))
              unfold Hid
              refine st' 25 (.tmp 2) (.tmp 90) 3 sizeNd w.heap.size 0 zNd rfl zNd_one (Z.there 0 3 (by decide)) rfl rfl ?_
              intro x9 hx9
              have b9 : Blk x9 w.heap.size zNd 25 := by rw [hx9]; exact Z.setsW _ rfl
              have k9 : Below w.heap.size w x9 := by rw [hx9]; exact below_sets (Nat.le_refl _) _ k 0
              clear hx9
              go_wp2_with fail
              refine bodyPost_ret (v := .tuple #[ndv zeroN T0 T0, .int .i64 4]) (resCT18 Try.results12 _ _ w.heap.size _ rfl (run_loadVar_row x9 w.heap.size 25 25 _ (0, 0) _ b9 Try.underlying25 rfl sizeNd) _ rfl) rfl ?_
              rw [HO.out]
              exact ⟨T0, T0, rfl, Nd.zero _ _, k9⟩
          · have i1 : ¬ (m : Int) < (rn : Int) := by omega
            have hzb : zeroB sl = true := by rw [HI.out, List.drop_of_length_le (by have := BT.len; omega)]; rfl
            have HG3 : Hid (out = if cd = 0 then (NN, 0) else (zeroN, cd)) := by show _ = _; rw [HG2.out]; exact if_pos hzb
            clear HI hzb HG2
            go_wp2_with (first | ((with_reducible refine at_ld 25 ?_); (refine ld 25 (.tmp 4) 3 sizeNd _ Try.underlying25 rfl g4 0 (ndc NN ⟨pa, pn, pc⟩ T0) rfl Y.whole rfl ?_)) | (go_at_call 15; (with_reducible refine Hid.out ?_)))
            unfold Hid
            refine (CC.out wo (Below.refl _ _)).mono ?_
            rintro e X1 ⟨rfl, kb⟩
            have ND1 := HND.out.below kb
            replace Z := Z.below kb Z.lt
            replace Y := Y.below kb Y.lt
            replace k := k.trans (kb.mono k.size)
            clear kb CC HND r0 R BT
            by_cases hc : cd = 0
            · subst hc
              have HO : Hid (out = (NN, 0)) := by show _ = _; rw [HG3.out]; exact if_pos rfl
              clear HG3
              go_wp2_with (first | ((with_reducible refine at_ld 25 ?_); (refine ld 25 (.tmp 4) 3 sizeNd _ Try.underlying25 rfl g4 0 (ndc NN ⟨pa, pn, pc⟩ T0) rfl Y.whole rfl ?_)) | ((with_reducible refine at_st 25 ?_); (with_reducible refine Hid.out ?_)))
              unfold Hid
              refine st' 25 (.tmp 2) (.tmp 97) 3 sizeNd w.heap.size 0 (ndc NN ⟨pa, pn, pc⟩ T0) rfl (ndc_one NN ⟨pa, pn, pc⟩ T0) (Z.there 0 3 (by decide)) rfl rfl ?_
              intro x9 hx9
              have b9 : Blk x9 w.heap.size (ndc NN ⟨pa, pn, pc⟩ T0) 25 := by rw [hx9]; exact Z.setsW _ rfl
              have k9 : Below w.heap.size w x9 := by rw [hx9]; exact below_sets (Nat.le_refl _) _ k 0
              have kp9 : Kp (fun j => j = w.heap.size) X1 x9 := by rw [hx9]; exact Kp.of_grown (but_cells' _ _ _ _)
              clear hx9
              go_wp2_with fail
              refine bodyPost_ret (v := .tuple #[ndv NN ⟨pa, pn, pc⟩ T0, .int .i64 0]) (resCT18 Try.results12 _ _ w.heap.size _ rfl (run_loadVar_row x9 w.heap.size 25 25 _ (0, 0) _ b9 Try.underlying25 rfl sizeNd) _ rfl) rfl ?_
              rw [HO.out]
              exact ⟨_, _, rfl, ((ND1.keep kp9.size fun j hj hA => kp9.block j hj hA).mono fun _ _ _ => trivial), k9⟩
            · have d2 : (cd == 0) = false := by simpa using hc
              have d3 : (cd != 0) = true := by simpa using hc
              have HO : Hid (out = (zeroN, cd)) := by show _ = _; rw [HG3.out]; exact if_neg hc
              clear HG3
              go_wp2_with ((with_reducible refine at_st 25 ?_); (with_reducible refine Hid.out ?_))
              unfold Hid
              refine st' 25 (.tmp 2) (.tmp 95) 3 sizeNd w.heap.size 0 zNd rfl zNd_one (Z.there 0 3 (by decide)) rfl rfl ?_
              intro x9 hx9
              have b9 : Blk x9 w.heap.size zNd 25 := by rw [hx9]; exact Z.setsW _ rfl
              have k9 : Below w.heap.size w x9 := by rw [hx9]; exact below_sets (Nat.le_refl _) _ k 0
              clear hx9
              go_wp2_with fail
              refine bodyPost_ret (v := .tuple #[ndv zeroN T0 T0, .int .i64 cd]) (resCT18 Try.results12 _ _ w.heap.size _ rfl (run_loadVar_row x9 w.heap.size 25 25 _ (0, 0) _ b9 Try.underlying25 rfl sizeNd) _ rfl) rfl ?_
              rw [HO.out]
              exact ⟨T0, T0, rfl, Nd.zero _ _, k9⟩
      · have e2 : (sc == 0) = false := by simpa using h0
        have e3 : (sc != 0) = true := by simpa using h0
        clear hgo
        by_cases hlt : j < cnt
        · have i0 : (j : Int) < (cnt : Int) := by omega
          have HO : Hid (out = (zeroN, sc)) := by show _ = _; rw [HG.out]; exact if_neg h0
          clear HG CC HND
          go_wp2_with fail
          have F1 : ∀ u, (Kp (fun j => j = w.heap.size) wr u ∧ ∃ vs : List Value, vs.length = 3 ∧ Blk u w.heap.size vs 25) → u.cell? ⟨g5, 1, none⟩ = some (.int .i64 sc) := fun u hu => (hu.1.blk R (by omega)).cell 1
          have F2 : ∀ u, (Kp (fun j => j = w.heap.size) wr u ∧ ∃ vs : List Value, vs.length = 3 ∧ Blk u w.heap.size vs 25) → g5 < u.heap.size := fun u hu => Nat.lt_of_lt_of_le lR5 hu.1.size
          refine regionG (S := fun u => Kp (fun j => j = w.heap.size) wr u ∧ ∃ vs : List Value, vs.length = 3 ∧ Blk u w.heap.size vs 25) (by kernel_rfl) ⟨(Kp.refl _ wr).drew 1, zNd, rfl, Z.below (below_drewN' wr 1) Z.lt⟩ ?_
          refine takeG 0 (some 74) (.agg zNd.toArray) rfl rfl (by kernel_rfl) (by kernel_rfl) (by kernel_rfl) (fun _ _ _ h => h) (ans_plain (by rfl) (fun w _ => by unfold execOp; go_simp; try rfl)) ?_
          simp only [Act.put, List.setIfInBounds_toArray, List.set_cons_zero, List.set_cons_succ]
          refine takeG 1 (some 75) (.pointer (some ⟨g5, 1, none⟩)) rfl rfl (by kernel_rfl) (by kernel_rfl) (by kernel_rfl) (fun _ _ _ h => h) (ans_plain (by rfl) (fun w _ => by unfold execOp; go_simp)) ?_
          simp only [Act.put, List.setIfInBounds_toArray, List.set_cons_zero, List.set_cons_succ]
          refine takeG 2 (some 76) (.int .i64 sc) rfl rfl (by kernel_rfl) (by kernel_rfl) (by kernel_rfl) (fun _ _ _ h => h) (ans_plain (by rfl) (fun w h => by have hc := F1 w h; have hl := F2 w h; unfold execOp; go_simp)) ?_
          simp only [Act.put, List.setIfInBounds_toArray, List.set_cons_zero, List.set_cons_succ]
          refine oneG 3 (by kernel_rfl) fun u1 hg1 hs1 => ?_
          obtain ⟨kp1, vs1, hl1, bz1⟩ := hs1
          refine opStR 3 25 (.tmp 2) (.tmp 74) 3 rfl rfl rfl rfl w.heap.size vs1 zNd 25 bz1 hl1 rfl zNd_one sizeNd rfl rfl fun u2 b9 k9 => ?_
          refine ⟨⟨kp1.trans k9, zNd, rfl, b9⟩, ?_⟩
          refine takeG 4 (some 3) (.int .i64 sc) rfl rfl (by kernel_rfl) (by kernel_rfl) (by kernel_rfl) (fun _ _ _ h => h) (ans_plain (by rfl) (fun w _ => rfl)) ?_
          simp only [Act.put, List.setIfInBounds_toArray, List.set_cons_zero, List.set_cons_succ]
          refine doneG (by kernel_rfl) fun x9 hg9 hs9 => ?_
          have b9x := b9.below hg9 b9.lt
          have kx9 : Below w.heap.size w x9 := below_kp k hs9.1 k.size (fun j hj e => by omega)
          clear F1 F2 hs9 hg9 b9 k9 kp1 bz1 hg1
          go_wp2_with fail
          refine bodyPost_ret (v := .tuple #[ndv zeroN T0 T0, .int .i64 sc]) (resCT18 Try.results12 _ _ w.heap.size _ rfl (run_loadVar_row x9 w.heap.size 25 25 _ (0, 0) _ b9x Try.underlying25 rfl sizeNd) _ rfl) rfl ?_
          rw [HO.out]
          exact ⟨T0, T0, rfl, Nd.zero _ _, kx9⟩
        · have i0 : ¬ (j : Int) < (cnt : Int) := by omega
          have HO : Hid (out = (zeroN, sc)) := by show _ = _; rw [HG.out]; exact if_neg h0
          clear HG CC HND
          go_wp2_with fail
          have F1 : ∀ u, (Kp (fun j => j = w.heap.size) wr u ∧ ∃ vs : List Value, vs.length = 3 ∧ Blk u w.heap.size vs 25) → u.cell? ⟨g5, 1, none⟩ = some (.int .i64 sc) := fun u hu => (hu.1.blk R (by omega)).cell 1
          have F2 : ∀ u, (Kp (fun j => j = w.heap.size) wr u ∧ ∃ vs : List Value, vs.length = 3 ∧ Blk u w.heap.size vs 25) → g5 < u.heap.size := fun u hu => Nat.lt_of_lt_of_le lR5 hu.1.size
          refine regionG (S := fun u => Kp (fun j => j = w.heap.size) wr u ∧ ∃ vs : List Value, vs.length = 3 ∧ Blk u w.heap.size vs 25) (by kernel_rfl) ⟨(Kp.refl _ wr).drew 1, zNd, rfl, Z.below (below_drewN' wr 1) Z.lt⟩ ?_
          refine takeG 0 (some 74) (.agg zNd.toArray) rfl rfl (by kernel_rfl) (by kernel_rfl) (by kernel_rfl) (fun _ _ _ h => h) (ans_plain (by rfl) (fun w _ => by unfold execOp; go_simp; try rfl)) ?_
          simp only [Act.put, List.setIfInBounds_toArray, List.set_cons_zero, List.set_cons_succ]
          refine takeG 1 (some 75) (.pointer (some ⟨g5, 1, none⟩)) rfl rfl (by kernel_rfl) (by kernel_rfl) (by kernel_rfl) (fun _ _ _ h => h) (ans_plain (by rfl) (fun w _ => by unfold execOp; go_simp)) ?_
          simp only [Act.put, List.setIfInBounds_toArray, List.set_cons_zero, List.set_cons_succ]
          refine takeG 2 (some 76) (.int .i64 sc) rfl rfl (by kernel_rfl) (by kernel_rfl) (by kernel_rfl) (fun _ _ _ h => h) (ans_plain (by rfl) (fun w h => by have hc := F1 w h; have hl := F2 w h; unfold execOp; go_simp)) ?_
          simp only [Act.put, List.setIfInBounds_toArray, List.set_cons_zero, List.set_cons_succ]
          refine oneG 3 (by kernel_rfl) fun u1 hg1 hs1 => ?_
          obtain ⟨kp1, vs1, hl1, bz1⟩ := hs1
          refine opStR 3 25 (.tmp 2) (.tmp 74) 3 rfl rfl rfl rfl w.heap.size vs1 zNd 25 bz1 hl1 rfl zNd_one sizeNd rfl rfl fun u2 b9 k9 => ?_
          refine ⟨⟨kp1.trans k9, zNd, rfl, b9⟩, ?_⟩
          refine takeG 4 (some 3) (.int .i64 sc) rfl rfl (by kernel_rfl) (by kernel_rfl) (by kernel_rfl) (fun _ _ _ h => h) (ans_plain (by rfl) (fun w _ => rfl)) ?_
          simp only [Act.put, List.setIfInBounds_toArray, List.set_cons_zero, List.set_cons_succ]
          refine doneG (by kernel_rfl) fun x9 hg9 hs9 => ?_
          have b9x := b9.below hg9 b9.lt
          have kx9 : Below w.heap.size w x9 := below_kp k hs9.1 k.size (fun j hj e => by omega)
          clear F1 F2 hs9 hg9 b9 k9 kp1 bz1 hg1
          go_wp2_with fail
          refine bodyPost_ret (v := .tuple #[ndv zeroN T0 T0, .int .i64 sc]) (resCT18 Try.results12 _ _ w.heap.size _ rfl (run_loadVar_row x9 w.heap.size 25 25 _ (0, 0) _ b9x Try.underlying25 rfl sizeNd) _ rfl) rfl ?_
          rw [HO.out]
          exact ⟨T0, T0, rfl, Nd.zero _ _, kx9⟩
set_option maxRecDepth 100000 in
set_option maxHeartbeats 8000000 in
theorem rGetK (w : World) {a : Option Addr} {n c : Nat} {b : List UInt8} (hb : Bs w a n c b) (hz : b.length = 496) (hx : b[0]? = some 0) : Calls Try.prog 12 #[.slice a n c] w (GotR18 w (getNd b)) := by
  have hv1 : rV (b, 0) 1 = 0 := rV_head hx
  have HR : Hid (nodR b = ⟨false, [], sevK kidR restD (cntR restD (cntB b) (bodyR b)) (bodyR b)⟩) := by
    show nodR b = _
    unfold nodR leafR
    rw [hv1]
    rfl
  have HT : Hid (nodT b = itR restD (cntR restD (cntB b) (bodyR b)) (bodyR b)) := by
    show nodT b = _
    unfold nodT leafR
    rw [hv1]
    rfl
  have HG : Hid (getNd b = if (nodT b).2 = 0 then (if zeroB (nodT b).1 = true then (if chkN (nodR b) = 0 then (nodR b, 0) else (zeroN, chkN (nodR b))) else (zeroN, 4)) else (zeroN, (nodT b).2)) := by
    show getNd b = _
    unfold getNd
    rw [if_pos hz, hv1, if_pos (by decide)]
  have HL : Hid (Lit (nodR b)) := nodR_lit b
  have hcl : cntB b ≤ 65535 := rV2 _
  have hs0 := body_drop hz
  have hc0 := cntB_eq hz
  have hn : n = 496 := by have := hb.len; omega
  subst hn
  obtain ⟨W0, hW0⟩ : ∃ W0, W0 = w.alloc (.cells #[.bool false, .slice none 0 0, .slice none 0 0] 25) := ⟨_, rfl⟩
  have Z : Blk W0 w.heap.size zNd 25 := by rw [hW0]; exact Blk.newAt w _ _ w.heap.size rfl _ rfl
  have k : Below w.heap.size w W0 := by rw [hW0]; exact below_alloc _ _
  have HB : Hid (Bs w a 496 c b) := hb
  obtain ⟨ba, o, ea, hlt, hcell⟩ := (hb.below k (Nat.le_refl _)).at (by omega)
  subst ea
  have c0 : W0.cell? ⟨ba, o, none⟩ = some (.int .u8 0) := by
    have e : bt b 0 = 0 := by unfold bt; rw [List.getD_eq_getElem?_getD, hx]; rfl
    rw [← e]
    exact hcell 0 (by omega)
  obtain ⟨ta, tc, hsl, hT0, -⟩ := hb.cutLow 3 (by omega)
  obtain ⟨ua, uc, hsm, hU0⟩ := hb.cut2 1 3 (by omega) (by omega)
  have hsl : ∀ w, Sem.run Try.prog (Instr.slice 26 (.slice (some ⟨ba, o, none⟩) 496 c) (some (.int .i64 3)) none none) w = .ok (.slice ta 493 tc) w := hsl
  have hsm : ∀ w, Sem.run Try.prog (Instr.slice 26 (.slice (some ⟨ba, o, none⟩) 496 c) (some (.int .i64 1)) (some (.int .i64 3)) none) w = .ok (.slice ua 2 uc) w := hsm
  obtain ⟨s0, es0⟩ : ∃ s0, bodyR b = s0 := ⟨_, rfl⟩
  obtain ⟨cnt, ecnt⟩ : ∃ cnt, cntB b = cnt := ⟨_, rfl⟩
  rw [es0] at HR HT hs0
  rw [ecnt] at HR HT hcl hc0
  have HT0 : Hid (∀ W, Bs W (some ⟨ba, o, none⟩) 496 c b → Bs W ta 493 tc s0.1) := by
    show ∀ W, _
    rw [hs0]
    exact fun W h => hT0 W h
  have HU0 : Hid (∀ W, Bs W (some ⟨ba, o, none⟩) 496 c b → Bs W ua 2 uc ((b.drop 1).take 2)) := fun W h => hU0 W h
  have H02 : Hid (s0.2 = 0) := by show _ = _; rw [hs0]
  have HC0 : Hid (cnt = getN ((b.drop 1).take 2)) := hc0
  have HB0 : Hid (Bs w (some ⟨ba, o, none⟩) 496 c b) := HB
  generalize getNd b = out at *
  clear hb hz hx hcell HB hv1 hs0 hc0 hT0 hU0 es0 ecnt
  go_enter Try.func12, Try.ntmps12
  go_upto_region 1 with fail
  rw [← hW0]
  clear hW0
  go_wp2_with ((with_reducible refine at_st 25 ?_); (with_reducible refine Hid.out ?_))
  unfold Hid
  refine st' 25 (.tmp 4) (.tmp 27) 3 sizeNd W0.heap.size 0 [.bool false, .slice none 0 0, .slice none 0 0] rfl (by intro u hu; simp only [List.mem_cons, List.not_mem_nil, or_false] at hu; rcases hu with rfl | rfl | rfl <;> rfl) ((Blk.newAt W0 _ _ _ rfl _ rfl : Blk _ W0.heap.size [.bool false, .slice none 0 0, .slice none 0 0] 25).there 0 3 (by decide)) rfl rfl ?_
  intro W1 hW
  obtain ⟨kb, Y⟩ := boxN18 W0 _ [.bool false, .slice none 0 0, .slice none 0 0] rfl rfl hW
  clear hW c0
  obtain ⟨g4, hg4⟩ : ∃ g, g = W0.heap.size := ⟨_, rfl⟩
  rw [← hg4] at Y ⊢
  have hg04 : w.heap.size < g4 := by rw [hg4]; exact Z.lt
  clear hg4
  replace Z := Z.below kb Z.lt
  replace k := k.trans (kb.mono k.size)
  clear kb
  go_wp2_with ((with_reducible refine at_st 65 ?_); (with_reducible refine Hid.out ?_))
  unfold Hid
  refine st' 65 (.tmp 5) (.tmp 30) 2 sizeRd18 W1.heap.size 0 (rcR ta 493 tc 0) rfl (rcR_one _ _ _ _) ((Blk.newAt W1 _ _ _ rfl _ rfl : Blk _ W1.heap.size [.slice none 0 0, .int .i64 0] 65).there 0 2 (by decide)) rfl rfl ?_
  intro W2 hW
  obtain ⟨kb, R⟩ := boxR18 W1 _ (rcR ta 493 tc 0) rfl rfl hW
  clear hW hsl
  obtain ⟨g5, hg5⟩ : ∃ g, g = W1.heap.size := ⟨_, rfl⟩
  rw [← hg5] at R ⊢
  have hg45 : g4 < g5 := by rw [hg5]; exact Y.lt
  clear hg5
  replace Z := Z.below kb Z.lt
  replace Y := Y.below kb Y.lt
  replace k := k.trans (kb.mono k.size)
  clear kb
  go_wp2_with (go_at_call 40; (with_reducible refine Hid.out ?_))
  unfold Hid
  refine (rGet W2 (HU0.out W2 (HB0.out.below k (Nat.le_refl _)))).mono ?_
  rintro e W2x ⟨rfl, rfl⟩
  rw [← HC0.out]
  clear hsm HU0 HC0
  have wc : IntKind.i64.wrap (cnt : Int) = (cnt : Int) := by rw [IntKind.wrap_i64]; omega
  have R0 : Blk W2 g5 (rcR ta 493 tc (itR restD 0 s0).2) 65 := by rw [show (itR restD 0 s0).2 = 0 from H02.out]; exact R
  have OS0 : Hid (OwS (elKd fun j => j < w.heap.size) 3 46 W2 (g5 + 1) (.slice none 0 0) (sevK kidR restD 0 s0)) := OwS.nil _ _ _ _ _
  have lR : g5 + 1 ≤ W2.heap.size := R.lt
  clear R
  go_wp2_with fail
  clear wc
  go_loopw [7] (fun v wr => ∃ (k : Nat) (ra : Option Addr) (rn rc : Nat) (pa : Option Addr) (pn pc : Nat), k ≤ cnt ∧ v = .int .i64 (k : Int) ∧ Hid (∀ i, i < k → (itR restD i s0).2 = 0) ∧ Hid (∀ W, Bs W (some ⟨ba, o, none⟩) 496 c b → Bs W ra rn rc (itR restD k s0).1) ∧ Blk wr w.heap.size zNd 25 ∧ Blk wr g4 [.bool false, .slice none 0 0, .slice pa pn pc] 25 ∧ Blk wr g5 (rcR ra rn rc (itR restD k s0).2) 65 ∧ Hid (OwS (elKd fun j => j < w.heap.size) 3 46 wr (g5 + 1) (.slice pa pn pc) (sevK kidR restD k s0)) ∧ Below w.heap.size w wr ∧ g5 + 1 ≤ wr.heap.size) (fun v _ => cnt - (intOf v).toNat)
  case atStart => exact ⟨0, ta, 493, tc, none, 0, 0, Nat.zero_le _, rfl, fun i hi => absurd hi (Nat.not_lt_zero _), HT0, Z, Y, R0, OS0, k, lR⟩
  case round =>
    clear HT0 Z Y R0 OS0 k lR
    obtain ⟨j, ra, rn, rc, pa, pn, pc, hj, rfl, HZ, T, Z, Y, R, OS, k, lR⟩ := hrel
    obtain ⟨sj, hsj⟩ : ∃ sj, itR restD j s0 = sj := ⟨_, rfl⟩
    rw [hsj] at T R
    have r1 : wr.cell? ⟨g5, 1, none⟩ = some (.int .i64 sj.2) := R.cell 1
    have lR5 := R.lt
    by_cases hgo : j < cnt ∧ sj.2 = 0
    · obtain ⟨hlt, h0⟩ := hgo
      obtain ⟨sl, sc⟩ := sj
      dsimp only at h0 T R r1
      subst h0
      have i0 : (j : Int) < (cnt : Int) := by omega
      have HZN : Hid (∀ i, i < j + 1 → (itR restD i s0).2 = 0) := fun i hi => by
        by_cases e : i = j
        · rw [e, hsj]
        · exact HZ.out i (by omega)
      have hnx : itR restD (j + 1) s0 = restD (sl, 0) := by show restD (itR restD j s0) = _; rw [hsj]
      have hsv : sevK kidR restD (j + 1) s0 = sevK kidR restD j s0 ++ [kidR (sl, 0)] := by show _ ++ [kidR (itR restD j s0)] = _; rw [hsj]
      have y0 : wr.cell? ⟨g4, 0, none⟩ = some (.bool false) := Y.cell 0
      have lY := Y.lt
      have HSV : Hid (sevK kidR restD (j + 1) s0 = sevK kidR restD j s0 ++ [kidR (sl, 0)]) := hsv
      have HNX : Hid (itR restD (j + 1) s0 = restD (sl, 0)) := hnx
      have hln : (sevK kidR restD j s0).length = j := sevK_len _ _ _ _
      generalize sevK kidR restD j s0 = LL at *
      obtain ⟨LN, hLN⟩ : ∃ LN, LN = sevK kidR restD (j + 1) s0 := ⟨_, rfl⟩
      obtain ⟨SN, hSN⟩ : ∃ SN, SN = itR restD (j + 1) s0 := ⟨_, rfl⟩
      rw [← hLN] at HSV
      rw [← hSN] at HNX
      have HLN : Hid (LN = sevK kidR restD (j + 1) s0) := hLN
      have HSN : Hid (SN = itR restD (j + 1) s0) := hSN
      clear hLN hSN
      clear hsv hnx HZ hsj
      go_wp2_with (first | ((with_reducible refine at_ld 65 ?_); (refine ld 65 (.tmp 5) 2 sizeRd18 _ Try.underlying65 rfl g5 0 (rcR ra rn rc 0) rfl R.whole rfl ?_)) | (go_at_call 42; (with_reducible refine Hid.out ?_)))
      unfold Hid
      refine (rKidN wr (s := (sl, 0)) (T.out wr (HB0.out.below k (Nat.le_refl _)))).mono ?_
      rintro e V1 ⟨ra2, rn2, rc2, kp, km, kc, rfl, hT2, hK, kb⟩
      have T2 : Hid (∀ W, Bs W (some ⟨ba, o, none⟩) 496 c b → Bs W ra2 rn2 rc2 (restD (sl, 0)).1) := fun W h => hT2 W (T.out W h)
      have KB : BA (fun j => j < w.heap.size) w kp km kc (kidR (sl, 0)).key := bs_old (hK w (T.out w HB0.out))
      clear hT2 hK r1 y0 T
      replace Z := Z.below kb Z.lt
      replace Y := Y.below kb Y.lt
      replace R := R.below kb R.lt
      replace OS : OwS (elKd fun j => j < w.heap.size) 3 46 V1 (g5 + 1) (.slice pa pn pc) LL := OwS.keep OS.out (elKd.keep kb.size fun j hj _ => kb.block j hj) (fun j hj => kb.block j (OS.out.lt j hj).2)
      replace k := k.trans (kb.mono k.size)
      replace lR := Nat.le_trans lR kb.size
      clear kb lR5 lY
      go_wp2_with ((with_reducible refine at_st 65 ?_); (with_reducible refine Hid.out ?_))
      unfold Hid
      obtain ⟨U, hU⟩ : ∃ U, U = (V1.alloc (.cells #[.slice none 0 0, .int .i64 0] 65)).alloc (.cells #[.slice none 0 0, .int .i64 0, .int .i64 0] 46) := ⟨_, rfl⟩
      rw [← hU]
      have tA : Blk U V1.heap.size [.slice none 0 0, .int .i64 0] 65 := by rw [hU]; exact (Blk.newAt V1 _ _ _ rfl _ rfl).old _
      have tB : Blk U (V1.heap.size + 1) [.slice none 0 0, .int .i64 0, .int .i64 0] 46 := by rw [hU]; exact Blk.newAt (V1.alloc _) _ _ _ (by simp) _ rfl
      have kU : Below V1.heap.size V1 U := by rw [hU]; exact (below_alloc V1 _).alloc (by simp) _
      clear hU
      refine st' 65 (.tmp 10) (.tmp 62) 2 sizeRd18 V1.heap.size 0 (rcR ra2 rn2 rc2 (restD (sl, 0)).2) rfl (rcR_one _ _ _ _) (tA.there 0 2 (by decide)) rfl rfl ?_
      intro V2 hW
      have tA2 : Blk V2 V1.heap.size (rcR ra2 rn2 rc2 (restD (sl, 0)).2) 65 := by rw [hW]; exact tA.setsW _ rfl
      have tB2 : Blk V2 (V1.heap.size + 1) [.slice none 0 0, .int .i64 0, .int .i64 0] 46 := by rw [hW]; exact Blk.setsO (by omega) _ tB 0
      have kV2 : Below V1.heap.size V1 V2 := by rw [hW]; exact below_sets (Nat.le_refl _) _ kU 0
      clear hW tA tB kU
      go_wp2_with ((with_reducible refine at_st 46 ?_); (with_reducible refine Hid.out ?_))
      unfold Hid
      refine st' 46 (.tmp 11) (.tmp 63) 3 sizeKd (V1.heap.size + 1) 0 [.slice kp km kc, .int .i64 (kidR (sl, 0)).page, .int .i64 (kidR (sl, 0)).epoch] rfl (by intro u hu; simp only [List.mem_cons, List.not_mem_nil, or_false] at hu; rcases hu with rfl | rfl | rfl <;> rfl) (tB2.there 0 3 (by decide)) rfl rfl ?_
      intro V3 hW
      have tA3 : Blk V3 V1.heap.size (rcR ra2 rn2 rc2 (restD (sl, 0)).2) 65 := by rw [hW]; exact Blk.setsO (by omega) _ tA2 0
      have tB3 : Blk V3 (V1.heap.size + 1) [.slice kp km kc, .int .i64 (kidR (sl, 0)).page, .int .i64 (kidR (sl, 0)).epoch] 46 := by rw [hW]; exact tB2.setsW _ rfl
      have kV3 : Below V1.heap.size V1 V3 := by rw [hW]; exact below_sets (by omega) _ kV2 0
      clear hW tA2 tB2 kV2
      obtain ⟨g8, hg8⟩ : ∃ g, g = V1.heap.size := ⟨_, rfl⟩
      have lg8 : g5 + 1 ≤ g8 := by rw [hg8]; exact lR
      replace Z := Z.below kV3 Z.lt
      replace Y := Y.below kV3 Y.lt
      replace R := R.below kV3 R.lt
      replace OS : OwS (elKd fun j => j < w.heap.size) 3 46 V3 (g5 + 1) (.slice pa pn pc) LL := OwS.keep OS (elKd.keep kV3.size fun j hj _ => kV3.block j hj) (fun j hj => kV3.block j (OS.lt j hj).2)
      replace k := k.trans (kV3.mono k.size)
      replace lR := Nat.le_trans lR kV3.size
      rw [← hg8] at tA3 tB3 ⊢
      clear kV3 hg8
      go_wp2_with (first | ((with_reducible refine at_ld 65 ?_); (refine ld 65 (.tmp 10) 2 sizeRd18 _ Try.underlying65 rfl g8 0 (rcR ra2 rn2 rc2 (restD (sl, 0)).2) rfl tA3.whole rfl ?_)) | ((with_reducible refine at_st 65 ?_); (with_reducible refine Hid.out ?_)))
      unfold Hid
      refine st' 65 (.tmp 5) (.tmp 64) 2 sizeRd18 g5 0 (rcR ra2 rn2 rc2 (restD (sl, 0)).2) rfl (rcR_one _ _ _ _) (R.there 0 2 (by simp [rcR])) rfl rfl ?_
      intro V4 hW
      have R4 : Blk V4 g5 (rcR ra2 rn2 rc2 (restD (sl, 0)).2) 65 := by rw [hW]; exact R.setsW _ rfl
      have kp4 : Kp (fun j => j = g5) V3 V4 := by rw [hW]; exact Kp.of_grown (but_cells' _ _ _ _)
      clear hW R tA3
      have Z4 : Blk V4 w.heap.size zNd 25 := kp4.blk Z (by omega)
      have Y4 : Blk V4 g4 [.bool false, .slice none 0 0, .slice pa pn pc] 25 := kp4.blk Y (by omega)
      have B4 : Blk V4 (g8 + 1) [.slice kp km kc, .int .i64 (kidR (sl, 0)).page, .int .i64 (kidR (sl, 0)).epoch] 46 := kp4.blk tB3 (by omega)
      have OS4 : OwS (elKd fun j => j < w.heap.size) 3 46 V4 (g5 + 1) (.slice pa pn pc) LL := OwS.keep OS (elKd.keep kp4.size fun j hj hA => kp4.block j hj (by omega)) (fun j hj => kp4.block j (OS.lt j hj).2 (by have := (OS.lt j hj).1; omega))
      have k4 : Below w.heap.size w V4 := below_kp k kp4 k.size (fun j hj e => by omega)
      have l4 : g5 + 1 ≤ V4.heap.size := Nat.le_trans lR kp4.size
      clear kp4 Z Y OS k lR tB3
      have y1 : V4.cell? ⟨g4, 2, none⟩ = some (.slice pa pn pc) := Y4.cell 2
      have lY4 := Y4.lt
      go_wp2_with (first | ((with_reducible refine at_ld 46 ?_); (refine ld 46 (.tmp 11) 3 sizeKd _ Try.underlying46 rfl (g8 + 1) 0 [.slice kp km kc, .int .i64 (kidR (sl, 0)).page, .int .i64 (kidR (sl, 0)).epoch] rfl B4.whole rfl ?_)) | (at_builtin; (with_reducible refine Hid.out ?_)))
      unfold Hid
      obtain ⟨V5, hV5⟩ : ∃ V5, V5 = V4.alloc (.cells #[.slice kp km kc, .int .i64 (kidR (sl, 0)).page, .int .i64 (kidR (sl, 0)).epoch] 46) := ⟨_, rfl⟩
      rw [← hV5]
      have b5 : Blk V5 V4.heap.size [.slice kp km kc, .int .i64 (kidR (sl, 0)).page, .int .i64 (kidR (sl, 0)).epoch] 46 := by rw [hV5]; exact Blk.newAt V4 _ _ _ rfl _ rfl
      have kb : Below V4.heap.size V4 V5 := by rw [hV5]; exact below_alloc _ _
      clear hV5 y1 lY4 B4
      replace Z4 := Z4.below kb Z4.lt
      replace Y4 := Y4.below kb Y4.lt
      replace R4 := R4.below kb R4.lt
      replace OS4 : OwS (elKd fun j => j < w.heap.size) 3 46 V5 (g5 + 1) (.slice pa pn pc) LL := OwS.keep OS4 (elKd.keep kb.size fun j hj _ => kb.block j hj) (fun j hj => kb.block j (OS4.lt j hj).2)
      replace k4 := k4.trans (kb.mono k4.size)
      replace l4 := Nat.le_trans l4 kb.size
      clear kb
      have er : Row (elKd fun j => j < w.heap.size) 3 V5 (kidR (sl, 0)) [.slice kp km kc, .int .i64 (kidR (sl, 0)).page, .int .i64 (kidR (sl, 0)).epoch] := elKd.row ⟨kp, km, kc, rfl, KB.keep k4.size (fun j hj _ => k4.block j hj), kid_i64 (sl, 0)⟩
      have src : Sl (elKd fun j => j < w.heap.size) 3 (fun _ => True) V5 (some ⟨V4.heap.size, 0, none⟩) 1 1 [kidR (sl, 0)] := Sl.one b5 er trivial
      have hz5 : LL.length + [kidR (sl, 0)].length ≤ 1000000 := by rw [hln]; simp; omega
      refine wpList_slapp (elKd fun j => j < w.heap.size) 3 40 23 46 _ Try.underlying23 infoKd rfl (by decide) (by decide) V5 rfl (.tmp 66) (.tmp 68) rfl (g5 + 1) (.slice pa pn pc) LL rfl OS4 (fun _ => True) (some ⟨V4.heap.size, 0, none⟩) 1 1 [kidR (sl, 0)] rfl src hz5 l4 (fun w' y vs hg hy => elKd.keep hg.size (fun j hj ha => hg.block j hj (fun e => by have := (OS4.lt j e.symm).1; omega)) y vs hy) ?_
      intro v8 V6 o8 g8x
      obtain ⟨a9, m9, c9, rfl, hm9⟩ := o8.shape
      have off : ∀ g, g < g5 + 1 → (some g : Option Nat) ≠ (Value.slice pa pn pc).ownBlock := fun g hg e => by have := (OS4.lt g e.symm).1; omega
      have Z6 : Blk V6 w.heap.size zNd 25 := by unfold Blk; rw [g8x.block _ Z4.lt (off _ (by omega))]; exact Z4
      have Y6 : Blk V6 g4 [.bool false, .slice none 0 0, .slice pa pn pc] 25 := by unfold Blk; rw [g8x.block _ Y4.lt (off _ (by omega))]; exact Y4
      have R6 : Blk V6 g5 (rcR ra2 rn2 rc2 (restD (sl, 0)).2) 65 := by unfold Blk; rw [g8x.block _ R4.lt (off _ (by omega))]; exact R4
      have k6 : Below w.heap.size w V6 := k4.grown g8x k4.size (fun j hj => by have := (OS4.lt j hj).1; omega)
      have l6 : g5 + 1 ≤ V6.heap.size := Nat.le_trans l4 g8x.size
      clear g8x off OS4 Z4 Y4 R4 k4 l4 src er b5 hz5
      have d6 : V6.cell? ⟨g4, 2, none⟩ = some (.slice pa pn pc) := Y6.cell 2
      have f6 := Y6.free 2
      have lY6 := Y6.lt
      go_wp2_with fail
      have ks : Kp (fun j => j = g4) V6 (V6.setCell ⟨g4, 2, none⟩ (.slice a9 m9 c9)) := Kp.setC (F := fun j => j = g4) rfl _ _
      have Z7 := ks.blk Z6 (by omega)
      have Y7 : Blk (V6.setCell ⟨g4, 2, none⟩ (.slice a9 m9 c9)) g4 [.bool false, .slice none 0 0, .slice a9 m9 c9] 25 := Y6.setC 2 (.slice a9 m9 c9)
      have R7 := ks.blk R6 (by omega)
      have OS7 : Hid (OwS (elKd fun j => j < w.heap.size) 3 46 (V6.setCell ⟨g4, 2, none⟩ (.slice a9 m9 c9)) (g5 + 1) (.slice a9 m9 c9) LN) := by
        show OwS _ _ _ _ _ _ _
        rw [HSV.out]
        exact OwS.keep o8 (elKd.keep ks.size fun j hj hA => ks.block j hj (by omega)) (fun j hj => ks.block j (o8.lt j hj).2 (by have := (o8.lt j hj).1; omega))
      have k7 := below_kp k6 ks k6.size (fun j hj e => by omega)
      have l7 : g5 + 1 ≤ (V6.setCell ⟨g4, 2, none⟩ (.slice a9 m9 c9)).heap.size := Nat.le_trans l6 ks.size
      have T7 : Hid (∀ W, Bs W (some ⟨ba, o, none⟩) 496 c b → Bs W ra2 rn2 rc2 SN.1) := by show ∀ W, _; rw [HNX.out]; exact T2.out
      rw [← HNX.out] at R7
      clear ks Z6 Y6 R6 o8 k6 l6 d6 f6 lY6 T2 KB HNX HSV
      rw [HSN.out] at T7 R7
      rw [HLN.out] at OS7
      clear HSN HLN
      go_roundw
      case rel => exact ⟨j + 1, ra2, rn2, rc2, a9, m9, c9, by omega, by go_num, HZN, T7, Z7, Y7, R7, OS7, k7, l7⟩
      case measure => simp [intOf]; omega
    · have hstop : j = cnt ∨ (itR restD j s0).2 ≠ 0 := by
        rw [hsj]
        by_cases e : j < cnt
        · exact Or.inr fun h => hgo ⟨e, h⟩
        · exact Or.inl (by omega)
      have hcj : cntR restD cnt s0 = j := cntR_stop restD hj HZ.out hstop
      rw [hcj] at HR HT
      rw [hsj] at HT
      have HND : Hid (Nd (fun j => j ≠ w.heap.size) wr (nodR b) T0 ⟨pa, pn, pc⟩) := by
        show Nd _ _ _ _ _
        rw [HR.out]
        exact ⟨Sl.nil _ _ _ _, Sl.mono (OwS.sl3 (A := fun j => j ≠ w.heap.size) OS.out (fun j hj _ => by omega)) (elKd.mono fun j _ hj => by omega) (fun _ _ h => h)⟩
      have HY : Hid (ndc (nodR b) T0 ⟨pa, pn, pc⟩ = [.bool false, .slice none 0 0, .slice pa pn pc]) := by show _ = _; rw [HR.out]; rfl
      rw [← HY.out] at Y
      rw [HT.out] at HG
      have CC : Hid (∀ u, Below wr.heap.size wr u → Calls Try.prog 15 #[.agg (ndc (nodR b) T0 ⟨pa, pn, pc⟩).toArray] u fun e w' => e = .returned (.int .i64 (chkN (nodR b))) ∧ Below u.heap.size u w') := fun u hu => rCheckN u (HND.out.below hu) HL.out
      generalize nodR b = NN at *
      obtain ⟨cd, hcd⟩ : ∃ cd, chkN NN = cd := ⟨_, rfl⟩
      rw [hcd] at CC HG
      clear HR HT HY HL OS HZ hcd hcj hstop
      have r0 : wr.cell? ⟨g5, 0, none⟩ = some (.slice ra rn rc) := R.cell 0
      have BT : Bs wr ra rn rc sj.1 := T.out wr (HB0.out.below k (Nat.le_refl _))
      obtain ⟨sl, sc⟩ := sj
      dsimp only at *
      clear T hsj H02
      by_cases h0 : sc = 0
      · subst h0
        have i0 : ¬ (j : Int) < (cnt : Int) := by
          intro h
          exact hgo ⟨by omega, rfl⟩
        clear hgo
        have hmx := BT.max
        have HG2 : Hid (out = if zeroB sl = true then (if cd = 0 then (NN, 0) else (zeroN, cd)) else (zeroN, 4)) := by show _ = _; rw [HG.out]; exact if_pos rfl
        clear HG
        go_wp2_with fail
        clear r1 i0
        rename World => wo
        go_loop [12] (fun i => ∃ m : Nat, m ≤ rn ∧ i = .int .i64 (m : Int) ∧ Hid (zeroB sl = zeroB (sl.drop m))) (fun i => rn - (intOf i).toNat)
        case atStart => exact ⟨0, Nat.zero_le _, rfl, rfl⟩
        case round =>
          obtain ⟨m, hm, rfl, HI⟩ := hrel
          by_cases hlt2 : m < rn
          · have i1 : (m : Int) < (rn : Int) := by omega
            obtain ⟨x, hx⟩ : ∃ x, sl[m]? = some x := ⟨_, List.getElem?_eq_getElem (by have := BT.len; omega)⟩
            have hd := zeroB_drop hx
            obtain ⟨b2, o2, ea, hc⟩ := BT.2.2.2.2 m hlt2
            have ex : bt sl m = (x.toNat : Int) := by unfold bt; rw [List.getD_eq_getElem?_getD, hx]; rfl
            rw [ex] at hc
            have ea : ra = some ⟨b2, o2, none⟩ := ea
            subst ea
            by_cases hx0 : x = 0
            · subst hx0
              have hc : wo.cell? ⟨b2, o2 + m, none⟩ = some (.int .u8 0) := hc
              have HN : Hid (zeroB sl = zeroB (sl.drop (m + 1))) := by show _ = _; rw [HI.out, hd]; rfl
              have lb := lt_of_cell hc
              clear hd HI hx ex
              go_wp2_with fail
              go_round
              case rel => exact ⟨m + 1, by omega, by go_num, HN⟩
              case measure => simp [intOf]; omega
            · have hxn : ¬ (x.toNat : Int) = 0 := fun e => hx0 (UInt8.toNat_inj.1 (by simpa using e))
              have hx1 : ((x.toNat : Int) == 0) = false := by simpa using hxn
              have hx2 : ((x.toNat : Int) != 0) = true := by simpa using hxn
              have HO : Hid (out = (zeroN, 4)) := by
                show _ = _
                rw [HG2.out, HI.out, hd, if_neg]
                rw [show (x == 0) = false from by simpa using hx0]
                simp
              have lb := lt_of_cell hc
              generalize x.toNat = xn at *
              clear hd HI hx ex HG2 hx0
              go_wp2_with ((with_reducible refine at_st 25 ?_); (with_reducible refine Hid.out ?_))
              unfold Hid
              refine st' 25 (.tmp 2) (.tmp 90) 3 sizeNd w.heap.size 0 zNd rfl zNd_one (Z.there 0 3 (by decide)) rfl rfl ?_
              intro x9 hx9
              have b9 : Blk x9 w.heap.size zNd 25 := by rw [hx9]; exact Z.setsW _ rfl
              have k9 : Below w.heap.size w x9 := by rw [hx9]; exact below_sets (Nat.le_refl _) _ k 0
              clear hx9
              go_wp2_with fail
              refine bodyPost_ret (v := .tuple #[ndv zeroN T0 T0, .int .i64 4]) (resCT18 Try.results12 _ _ w.heap.size _ rfl (run_loadVar_row x9 w.heap.size 25 25 _ (0, 0) _ b9 Try.underlying25 rfl sizeNd) _ rfl) rfl ?_
              rw [HO.out]
              exact ⟨T0, T0, rfl, Nd.zero _ _, k9⟩
          · have i1 : ¬ (m : Int) < (rn : Int) := by omega
            have hzb : zeroB sl = true := by rw [HI.out, List.drop_of_length_le (by have := BT.len; omega)]; rfl
            have HG3 : Hid (out = if cd = 0 then (NN, 0) else (zeroN, cd)) := by show _ = _; rw [HG2.out]; exact if_pos hzb
            clear HI hzb HG2
            go_wp2_with (first | ((with_reducible refine at_ld 25 ?_); (refine ld 25 (.tmp 4) 3 sizeNd _ Try.underlying25 rfl g4 0 (ndc NN T0 ⟨pa, pn, pc⟩) rfl Y.whole rfl ?_)) | (go_at_call 15; (with_reducible refine Hid.out ?_)))
            unfold Hid
            refine (CC.out wo (Below.refl _ _)).mono ?_
            rintro e X1 ⟨rfl, kb⟩
            have ND1 := HND.out.below kb
            replace Z := Z.below kb Z.lt
            replace Y := Y.below kb Y.lt
            replace k := k.trans (kb.mono k.size)
            clear kb CC HND r0 R BT
            by_cases hc : cd = 0
            · subst hc
              have HO : Hid (out = (NN, 0)) := by show _ = _; rw [HG3.out]; exact if_pos rfl
              clear HG3
              go_wp2_with (first | ((with_reducible refine at_ld 25 ?_); (refine ld 25 (.tmp 4) 3 sizeNd _ Try.underlying25 rfl g4 0 (ndc NN T0 ⟨pa, pn, pc⟩) rfl Y.whole rfl ?_)) | ((with_reducible refine at_st 25 ?_); (with_reducible refine Hid.out ?_)))
              unfold Hid
              refine st' 25 (.tmp 2) (.tmp 97) 3 sizeNd w.heap.size 0 (ndc NN T0 ⟨pa, pn, pc⟩) rfl (ndc_one NN T0 ⟨pa, pn, pc⟩) (Z.there 0 3 (by decide)) rfl rfl ?_
              intro x9 hx9
              have b9 : Blk x9 w.heap.size (ndc NN T0 ⟨pa, pn, pc⟩) 25 := by rw [hx9]; exact Z.setsW _ rfl
              have k9 : Below w.heap.size w x9 := by rw [hx9]; exact below_sets (Nat.le_refl _) _ k 0
              have kp9 : Kp (fun j => j = w.heap.size) X1 x9 := by rw [hx9]; exact Kp.of_grown (but_cells' _ _ _ _)
              clear hx9
              go_wp2_with fail
              refine bodyPost_ret (v := .tuple #[ndv NN T0 ⟨pa, pn, pc⟩, .int .i64 0]) (resCT18 Try.results12 _ _ w.heap.size _ rfl (run_loadVar_row x9 w.heap.size 25 25 _ (0, 0) _ b9 Try.underlying25 rfl sizeNd) _ rfl) rfl ?_
              rw [HO.out]
              exact ⟨_, _, rfl, ((ND1.keep kp9.size fun j hj hA => kp9.block j hj hA).mono fun _ _ _ => trivial), k9⟩
            · have d2 : (cd == 0) = false := by simpa using hc
              have d3 : (cd != 0) = true := by simpa using hc
              have HO : Hid (out = (zeroN, cd)) := by show _ = _; rw [HG3.out]; exact if_neg hc
              clear HG3
              go_wp2_with ((with_reducible refine at_st 25 ?_); (with_reducible refine Hid.out ?_))
              unfold Hid
              refine st' 25 (.tmp 2) (.tmp 95) 3 sizeNd w.heap.size 0 zNd rfl zNd_one (Z.there 0 3 (by decide)) rfl rfl ?_
              intro x9 hx9
              have b9 : Blk x9 w.heap.size zNd 25 := by rw [hx9]; exact Z.setsW _ rfl
              have k9 : Below w.heap.size w x9 := by rw [hx9]; exact below_sets (Nat.le_refl _) _ k 0
              clear hx9
              go_wp2_with fail
              refine bodyPost_ret (v := .tuple #[ndv zeroN T0 T0, .int .i64 cd]) (resCT18 Try.results12 _ _ w.heap.size _ rfl (run_loadVar_row x9 w.heap.size 25 25 _ (0, 0) _ b9 Try.underlying25 rfl sizeNd) _ rfl) rfl ?_
              rw [HO.out]
              exact ⟨T0, T0, rfl, Nd.zero _ _, k9⟩
      · have e2 : (sc == 0) = false := by simpa using h0
        have e3 : (sc != 0) = true := by simpa using h0
        clear hgo
        by_cases hlt : j < cnt
        · have i0 : (j : Int) < (cnt : Int) := by omega
          have HO : Hid (out = (zeroN, sc)) := by show _ = _; rw [HG.out]; exact if_neg h0
          clear HG CC HND
          go_wp2_with fail
          have F1 : ∀ u, (Kp (fun j => j = w.heap.size) wr u ∧ ∃ vs : List Value, vs.length = 3 ∧ Blk u w.heap.size vs 25) → u.cell? ⟨g5, 1, none⟩ = some (.int .i64 sc) := fun u hu => (hu.1.blk R (by omega)).cell 1
          have F2 : ∀ u, (Kp (fun j => j = w.heap.size) wr u ∧ ∃ vs : List Value, vs.length = 3 ∧ Blk u w.heap.size vs 25) → g5 < u.heap.size := fun u hu => Nat.lt_of_lt_of_le lR5 hu.1.size
          refine regionG (S := fun u => Kp (fun j => j = w.heap.size) wr u ∧ ∃ vs : List Value, vs.length = 3 ∧ Blk u w.heap.size vs 25) (by kernel_rfl) ⟨(Kp.refl _ wr).drew 1, zNd, rfl, Z.below (below_drewN' wr 1) Z.lt⟩ ?_
          refine takeG 0 (some 74) (.agg zNd.toArray) rfl rfl (by kernel_rfl) (by kernel_rfl) (by kernel_rfl) (fun _ _ _ h => h) (ans_plain (by rfl) (fun w _ => by unfold execOp; go_simp; try rfl)) ?_
          simp only [Act.put, List.setIfInBounds_toArray, List.set_cons_zero, List.set_cons_succ]
          refine takeG 1 (some 75) (.pointer (some ⟨g5, 1, none⟩)) rfl rfl (by kernel_rfl) (by kernel_rfl) (by kernel_rfl) (fun _ _ _ h => h) (ans_plain (by rfl) (fun w _ => by unfold execOp; go_simp)) ?_
          simp only [Act.put, List.setIfInBounds_toArray, List.set_cons_zero, List.set_cons_succ]
          refine takeG 2 (some 76) (.int .i64 sc) rfl rfl (by kernel_rfl) (by kernel_rfl) (by kernel_rfl) (fun _ _ _ h => h) (ans_plain (by rfl) (fun w h => by have hc := F1 w h; have hl := F2 w h; unfold execOp; go_simp)) ?_
          simp only [Act.put, List.setIfInBounds_toArray, List.set_cons_zero, List.set_cons_succ]
          refine oneG 3 (by kernel_rfl) fun u1 hg1 hs1 => ?_
          obtain ⟨kp1, vs1, hl1, bz1⟩ := hs1
          refine opStR 3 25 (.tmp 2) (.tmp 74) 3 rfl rfl rfl rfl w.heap.size vs1 zNd 25 bz1 hl1 rfl zNd_one sizeNd rfl rfl fun u2 b9 k9 => ?_
          refine ⟨⟨kp1.trans k9, zNd, rfl, b9⟩, ?_⟩
          refine takeG 4 (some 3) (.int .i64 sc) rfl rfl (by kernel_rfl) (by kernel_rfl) (by kernel_rfl) (fun _ _ _ h => h) (ans_plain (by rfl) (fun w _ => rfl)) ?_
          simp only [Act.put, List.setIfInBounds_toArray, List.set_cons_zero, List.set_cons_succ]
          refine doneG (by kernel_rfl) fun x9 hg9 hs9 => ?_
          have b9x := b9.below hg9 b9.lt
          have kx9 : Below w.heap.size w x9 := below_kp k hs9.1 k.size (fun j hj e => by omega)
          clear F1 F2 hs9 hg9 b9 k9 kp1 bz1 hg1
          go_wp2_with fail
          refine bodyPost_ret (v := .tuple #[ndv zeroN T0 T0, .int .i64 sc]) (resCT18 Try.results12 _ _ w.heap.size _ rfl (run_loadVar_row x9 w.heap.size 25 25 _ (0, 0) _ b9x Try.underlying25 rfl sizeNd) _ rfl) rfl ?_
          rw [HO.out]
          exact ⟨T0, T0, rfl, Nd.zero _ _, kx9⟩
        · have i0 : ¬ (j : Int) < (cnt : Int) := by omega
          have HO : Hid (out = (zeroN, sc)) := by show _ = _; rw [HG.out]; exact if_neg h0
          clear HG CC HND
          go_wp2_with fail
          have F1 : ∀ u, (Kp (fun j => j = w.heap.size) wr u ∧ ∃ vs : List Value, vs.length = 3 ∧ Blk u w.heap.size vs 25) → u.cell? ⟨g5, 1, none⟩ = some (.int .i64 sc) := fun u hu => (hu.1.blk R (by omega)).cell 1
          have F2 : ∀ u, (Kp (fun j => j = w.heap.size) wr u ∧ ∃ vs : List Value, vs.length = 3 ∧ Blk u w.heap.size vs 25) → g5 < u.heap.size := fun u hu => Nat.lt_of_lt_of_le lR5 hu.1.size
          refine regionG (S := fun u => Kp (fun j => j = w.heap.size) wr u ∧ ∃ vs : List Value, vs.length = 3 ∧ Blk u w.heap.size vs 25) (by kernel_rfl) ⟨(Kp.refl _ wr).drew 1, zNd, rfl, Z.below (below_drewN' wr 1) Z.lt⟩ ?_
          refine takeG 0 (some 74) (.agg zNd.toArray) rfl rfl (by kernel_rfl) (by kernel_rfl) (by kernel_rfl) (fun _ _ _ h => h) (ans_plain (by rfl) (fun w _ => by unfold execOp; go_simp; try rfl)) ?_
          simp only [Act.put, List.setIfInBounds_toArray, List.set_cons_zero, List.set_cons_succ]
          refine takeG 1 (some 75) (.pointer (some ⟨g5, 1, none⟩)) rfl rfl (by kernel_rfl) (by kernel_rfl) (by kernel_rfl) (fun _ _ _ h => h) (ans_plain (by rfl) (fun w _ => by unfold execOp; go_simp)) ?_
          simp only [Act.put, List.setIfInBounds_toArray, List.set_cons_zero, List.set_cons_succ]
          refine takeG 2 (some 76) (.int .i64 sc) rfl rfl (by kernel_rfl) (by kernel_rfl) (by kernel_rfl) (fun _ _ _ h => h) (ans_plain (by rfl) (fun w h => by have hc := F1 w h; have hl := F2 w h; unfold execOp; go_simp)) ?_
          simp only [Act.put, List.setIfInBounds_toArray, List.set_cons_zero, List.set_cons_succ]
          refine oneG 3 (by kernel_rfl) fun u1 hg1 hs1 => ?_
          obtain ⟨kp1, vs1, hl1, bz1⟩ := hs1
          refine opStR 3 25 (.tmp 2) (.tmp 74) 3 rfl rfl rfl rfl w.heap.size vs1 zNd 25 bz1 hl1 rfl zNd_one sizeNd rfl rfl fun u2 b9 k9 => ?_
          refine ⟨⟨kp1.trans k9, zNd, rfl, b9⟩, ?_⟩
          refine takeG 4 (some 3) (.int .i64 sc) rfl rfl (by kernel_rfl) (by kernel_rfl) (by kernel_rfl) (fun _ _ _ h => h) (ans_plain (by rfl) (fun w _ => rfl)) ?_
          simp only [Act.put, List.setIfInBounds_toArray, List.set_cons_zero, List.set_cons_succ]
          refine doneG (by kernel_rfl) fun x9 hg9 hs9 => ?_
          have b9x := b9.below hg9 b9.lt
          have kx9 : Below w.heap.size w x9 := below_kp k hs9.1 k.size (fun j hj e => by omega)
          clear F1 F2 hs9 hg9 b9 k9 kp1 bz1 hg1
          go_wp2_with fail
          refine bodyPost_ret (v := .tuple #[ndv zeroN T0 T0, .int .i64 sc]) (resCT18 Try.results12 _ _ w.heap.size _ rfl (run_loadVar_row x9 w.heap.size 25 25 _ (0, 0) _ b9x Try.underlying25 rfl sizeNd) _ rfl) rfl ?_
          rw [HO.out]
          exact ⟨T0, T0, rfl, Nd.zero _ _, kx9⟩
theorem rGetN (w : World) {a : Option Addr} {n c : Nat} {b : List UInt8} (hb : Bs w a n c b) : Calls Try.prog 12 #[.slice a n c] w (GotR18 w (getNd b)) := by
  by_cases hz : b.length = 496
  · obtain ⟨x, hx⟩ : ∃ x, b[0]? = some x := ⟨_, List.getElem?_eq_getElem (by omega)⟩
    by_cases h1 : 1 < x.toNat
    · exact rGetF w hb hz hx h1
    · by_cases h0 : x.toNat = 1
      · obtain rfl : x = 1 := UInt8.toNat_inj.1 h0
        exact rGetL w hb hz hx
      · obtain rfl : x = 0 := UInt8.toNat_inj.1 (show x.toNat = 0 by omega)
        exact rGetK w hb hz hx
  · exact rGetS w hb hz

end Go.Proofs.Ytnmmopneacdgfaa
