/-
  2 texts in one. No statement of the seat is proved here.
-/
import Derived.Test.YtnmmopneacdgfaaI17
import Derived.Deep.CutBlock
/-
  The contract of layer 18's reference: Put. Condition: a node of at most a hundred thousand things, keys and values of at most a thousand bytes.
-/
namespace Go.Proofs.Ytnmmopneacdgfaa
open Go.RowKit
set_option linter.unusedVariables false
theorem Own.ty5 {w : World} {base : Nat} {v : Value} {l : List UInt8} (h : Own w base v l) : ∀ j, v.ownBlock = some j → base ≤ j ∧ ∃ cur f, w.heap[j]? = some (.cells cur 5 f) := fun j hj => by
  refine ⟨Own.size h j hj, ?_⟩
  rcases h.2 with ⟨rfl, _⟩ | ⟨g, cap, cur, rfl, _, hh, _⟩
  · simp [Value.ownBlock] at hj
  · simp only [Value.ownBlock, Option.some.injEq] at hj
    subst hj
    exact ⟨cur, (0, 0), hh⟩
theorem Own.blkO {w w' : World} {base : Nat} {v : Value} {l : List UInt8} (h : Own w base v l) (hg : w.grownBy w' v.ownBlock) {g : Nat} {vs : List Value} {t : TypeId} (hb : Blk w g vs t) (ht : t ≠ 5) : Blk w' g vs t := by
  unfold Blk
  rw [hg.block g hb.lt (fun e => by
    obtain ⟨_, cur, f, hh⟩ := h.ty5 g e.symm
    rw [show w.heap[g]? = _ from hb] at hh
    simp only [Option.some.injEq, Obj.cells.injEq] at hh
    exact ht hh.2.1)]
  exact hb
theorem Own.bel {w w' : World} {base : Nat} {v : Value} {l : List UInt8} (h : Own w base v l) (hg : w.grownBy w' v.ownBlock) {B : Nat} {a : World} (hb : Below B a w) (hB : B ≤ base) (hw : B ≤ w.heap.size) : Below B a w' := hb.grown hg hw fun j hj => Nat.le_trans hB (h.ty5 j hj).1
def lenV18 : Value → Nat | .slice _ n _ => n | _ => 0
theorem Own.lit (w : World) (l : List UInt8) (arr : Array Value) (h : arr.toList = cs l) (hm : l.length ≤ 1000000) : Own (w.alloc (.cells arr 5)) w.heap.size (.slice (some ⟨w.heap.size, 0, none⟩) l.length l.length) l := by
  have hz : arr.size = l.length := by rw [← Array.length_toList, h, cs_length]
  unfold Own
  rw [← h]
  exact World.ownsRow_lit w arr l.length (Nat.le_refl _) (by unfold maxLen; omega) (by omega)
theorem Bs.two (w : World) (x y : Nat) (hx : x ≤ 255) (hy : y ≤ 255) : Bs (w.alloc (.cells #[.int .u8 (x : Int), .int .u8 (y : Int)] 5)) (some ⟨w.heap.size, 0, none⟩) 2 2 (putL x 1 ++ putL y 1) := by
  have h1 : (UInt8.ofNat x).toNat = x := by simp; omega
  have h2 : (UInt8.ofNat y).toNat = y := by simp; omega
  exact Bs.made w [UInt8.ofNat x, UInt8.ofNat y] _ (by simp [cs, h1, h2]) (by simp)
theorem Bs.oneN (w : World) (x : Nat) (hx : x ≤ 255) : Bs (w.alloc (.cells #[.int .u8 (x : Int)] 5)) (some ⟨w.heap.size, 0, none⟩) 1 1 (putL x 1) := Bs.one w (x : Int) (by omega) (by omega)
set_option maxRecDepth 100000 in
set_option maxHeartbeats 8000000 in
theorem rPutN (w : World) {A : Nat → Prop} {n : NodeS} {p q : Tri} (h : Nd A w n p q) (hl : Lit n) : Calls Try.prog 10 #[ndv n p q] w fun e w' => ∃ s m c, e = .returned (.tuple #[.slice s m c, .int .i64 (chkN n)]) ∧ Bs w' s m c (putN n) ∧ Below w.heap.size w w' := by
  have l1 := h.lp
  have l2 := h.lk
  have hps := hl.ps
  have hks := hl.ks
  obtain ⟨cd, hcd⟩ : ∃ cd, chkN n = cd := ⟨_, rfl⟩
  obtain ⟨V, hV⟩ : ∃ V, V = w.alloc (.cells (ndc n p q).toArray 25) := ⟨_, rfl⟩
  have X : Blk V w.heap.size (ndc n p q) 25 := by rw [hV]; exact Blk.newAt w _ _ w.heap.size rfl _ rfl
  have k : Below w.heap.size w V := by rw [hV]; exact below_alloc _ _
  have sV : w.heap.size + 1 ≤ V.heap.size := by rw [hV]; simp
  have CC0 := rCheckN V (h.below k) hl
  rw [hcd] at CC0
  obtain ⟨lf, ps, ks⟩ := n
  obtain ⟨pa, pn, pc⟩ := p
  obtain ⟨qa, qn, qc⟩ := q
  unfold ndv ndc at *
  dsimp only at *
  have HN : Hid (Nd A w ⟨lf, ps, ks⟩ ⟨pa, pn, pc⟩ ⟨qa, qn, qc⟩) := h
  have CC : Hid (Calls Try.prog 15 #[.agg (List.toArray [.bool lf, .slice pa pn pc, .slice qa qn qc])] V fun e w' => e = .returned (.int .i64 cd) ∧ Below V.heap.size V w') := CC0
  clear CC0
  rw [hcd]
  by_cases hc : cd = 0
  · subst hc
    obtain ⟨hF, hsz⟩ := chkN_ok hcd
    have HB : Hid (putN ⟨lf, ps, ks⟩ = nodeL ⟨lf, ps, ks⟩) := if_pos hcd
    generalize putN ⟨lf, ps, ks⟩ = BB at *
    have HCP : Hid (∀ (k : Nat) x, ps[k]? = some x → x.key.length ≤ 64 ∧ x.value.length ≤ 160) := fun k x hx => chkP_ok (firstC_all hF.p x (List.mem_of_getElem? hx))
    have HCK : Hid (∀ (k : Nat) x, ks[k]? = some x → x.key.length ≤ 64 ∧ 0 ≤ x.page ∧ x.page ≤ 4095 ∧ 0 ≤ x.epoch ∧ x.epoch ≤ 1099511627776) := fun k x hx => chkD_ok (firstC_all hF.k x (List.mem_of_getElem? hx))
    have HSP : Hid (∀ k x, ps[k]? = some x → flatL pairL (ps.take (k + 1)) = flatL pairL (ps.take k) ++ pairL x) := fun k x hx => flatL_snoc pairL hx
    have HSK : Hid (∀ k x, ks[k]? = some x → flatL kidL (ks.take (k + 1)) = flatL kidL (ks.take k) ++ kidL x) := fun k x hx => flatL_snoc kidL hx
    have HLP : Hid (∀ k, (flatL pairL (ps.take k)).length ≤ 493) := fun k => by
      have := totL_parts psz ps k
      rw [flatL_len pairL_len]
      unfold sizeN at hsz
      dsimp only at hsz
      omega
    have HLK : Hid (∀ k, (flatL kidL (ks.take k)).length ≤ 493) := fun k => by
      have := totL_parts ksz ks k
      rw [flatL_len kidL_len]
      unfold sizeN at hsz
      dsimp only at hsz
      omega
    obtain ⟨KL, hKL⟩ : ∃ KL, KL = kindL ⟨lf, ps, ks⟩ := ⟨_, rfl⟩
    have HK1 : Hid (KL.length = 1) := by show _ = _; rw [hKL]; unfold kindL; exact putL_length _ _
    have HKL : Hid (KL = if lf = true then [1] else [0]) := by show _ = _; rw [hKL]; unfold kindL; cases lf <;> rfl
    have HBB : Hid (BB = KL ++ putL (pn + qn) 2 ++ flatL pairL (ps.take pn) ++ flatL kidL (ks.take qn) ++ List.replicate (496 - sizeN ⟨lf, ps, ks⟩) 0) := by
      show _ = _
      rw [HB.out, hKL, List.take_of_length_le (by omega), List.take_of_length_le (by omega), ← l1, ← l2]
      rfl
    have HBL : Hid (BB.length = 496) := by show _ = _; rw [HB.out]; exact nodeL_len hsz
    obtain ⟨sz, hsz1⟩ : ∃ sz, sizeN ⟨lf, ps, ks⟩ = sz := ⟨_, rfl⟩
    rw [hsz1] at HBB hsz
    have hTT : 3 + totL psz ps + totL ksz ks = sz := hsz1
    have HTL : Hid ((KL ++ putL (pn + qn) 2 ++ flatL pairL (ps.take pn) ++ flatL kidL (ks.take qn)).length = sz) := by
      show _ = _
      rw [List.length_append, List.length_append, List.length_append, HK1.out, putL_length, flatL_len pairL_len, flatL_len kidL_len, List.take_of_length_le (by omega), List.take_of_length_le (by omega)]
      omega
    have hcn : pn + qn ≤ 200000 := by omega
    clear hF HB hKL hsz1 hTT h hl
    go_enter Try.func10, Try.ntmps10
    go_upto_region 1 with fail
    rw [← hV]
    clear hV
    go_wp2_with (first | ((with_reducible refine at_ld 25 ?_); (refine ld 25 (.tmp 1) 3 sizeNd _ Try.underlying25 rfl (w.heap.size) 0 [.bool lf, .slice pa pn pc, .slice qa qn qc] rfl X.whole rfl ?_)) | (go_at_call 15; (with_reducible refine Hid.out ?_)))
    unfold Hid
    refine CC.out.mono ?_
    rintro e w1 ⟨rfl, k1⟩
    clear CC
    have s1 : w.heap.size + 1 ≤ w1.heap.size := Nat.le_trans sV k1.size
    clear sV
    replace X := X.below k1 X.lt
    replace k := k.trans (k1.mono k.size)
    clear k1
    have y0 : (w1.alloc (.cells #[.int .u8 0] 5)).cell? ⟨w.heap.size, 0, none⟩ = some (.bool lf) := (X.old _).cell 0
    go_upto_if 17 with fail
    clear y0
    go_cut [5] (fun v wx => ∃ g, v = .slice (some ⟨g, 0, none⟩) 1 1 ∧ Hid (Own wx (w.heap.size + 1) (.slice (some ⟨g, 0, none⟩) 1 1) KL) ∧ Blk wx w.heap.size [.bool lf, .slice pa pn pc, .slice qa qn qc] 25 ∧ Below w.heap.size w wx)
    case first =>
      have y0 : (w1.alloc (.cells #[.int .u8 0] 5)).cell? ⟨w.heap.size, 0, none⟩ = some (.bool lf) := (X.old _).cell 0
      cases lf
      · have o1 : Hid (Own (w1.alloc (.cells #[.int .u8 0] 5)) (w.heap.size + 1) (.slice (some ⟨w1.heap.size, 0, none⟩) 1 1) KL) := by
          rw [HKL.out]
          exact (Own.lit w1 [0] _ rfl (by decide)).mono s1
        have X1 : Blk (w1.alloc (.cells #[.int .u8 0] 5)) w.heap.size [.bool false, .slice pa pn pc, .slice qa qn qc] 25 := X.old _
        have k1 : Below w.heap.size w (w1.alloc (.cells #[.int .u8 0] 5)) := k.alloc k.size _
        clear X k
        go_wp2_with fail
        go_meet
        case rel => exact ⟨_, rfl, o1, X1, k1⟩
      · have s2 : w.heap.size + 1 ≤ (w1.alloc (.cells #[.int .u8 0] 5)).heap.size := by simp; omega
        have z2 : (w1.alloc (.cells #[.int .u8 0] 5)).heap.size = w1.heap.size + 1 := by simp
        have o1 : Hid (Own ((w1.alloc (.cells #[.int .u8 0] 5)).alloc (.cells #[.int .u8 1] 5)) (w.heap.size + 1) (.slice (some ⟨w1.heap.size + 1, 0, none⟩) 1 1) KL) := by
          rw [HKL.out, ← z2]
          exact (Own.lit (w1.alloc (.cells #[.int .u8 0] 5)) [1] _ rfl (by decide)).mono s2
        have X1 : Blk ((w1.alloc (.cells #[.int .u8 0] 5)).alloc (.cells #[.int .u8 1] 5)) w.heap.size [.bool true, .slice pa pn pc, .slice qa qn qc] 25 := (X.old _).old _
        have k1 : Below w.heap.size w ((w1.alloc (.cells #[.int .u8 0] 5)).alloc (.cells #[.int .u8 1] 5)) := (k.alloc k.size _).alloc (by simp; omega) _
        clear X k s2 z2
        go_wp2_with fail
        go_meet
        case rel => exact ⟨_, rfl, o1, X1, k1⟩
    case rest =>
      clear X k s1 HKL
      obtain ⟨gb, rfl, O0, X, k⟩ := hcut
      have O0 := O0.out
      have y1 : wc.cell? ⟨w.heap.size, 1, none⟩ = some (.slice pa pn pc) := X.cell 1
      have y2 : wc.cell? ⟨w.heap.size, 2, none⟩ = some (.slice qa qn qc) := X.cell 2
      obtain ⟨cn, hcn2⟩ : ∃ cn, cn = pn + qn := ⟨_, rfl⟩
      rw [← hcn2] at HTL HBB hcn
      have CP0 := rPut 2 ((pn : Int) + (qn : Int)) 2 wc (by decide) (by decide) (by omega) (by omega) (by decide)
      rw [show ((pn : Int) + (qn : Int)).toNat = cn from by omega, show (2 : Int).toNat = 2 from rfl] at CP0
      have CP : Hid (Calls Try.prog 32 #[.int .u64 ((pn : Int) + (qn : Int)), .int .i64 2] wc (Gives wc (putL cn 2))) := CP0
      have j3 : IntKind.u64.wrap ((pn : Int) + (qn : Int)) = (pn : Int) + (qn : Int) := by rw [IntKind.wrap_u64]; omega
      have j4 : wrap64 ((pn : Int) + (qn : Int)) = (pn : Int) + (qn : Int) := by unfold wrap64; omega
      clear CP0 hcn2
      go_wp2_with (go_at_call 32; (with_reducible refine Hid.out ?_))
      unfold Hid
      refine CP.out.mono ?_
      rintro e W1 ⟨a1, m1, c1, rfl, o1, k1⟩
      clear CP y1 y2 j3 j4
      have B1 := o1.toBs
      clear o1
      replace X := X.below k1 X.lt
      replace k := k.trans (k1.mono k.size)
      replace O0 := O0.below k1 (Nat.le_refl _)
      clear k1
      go_wp2_with (at_builtin; (with_reducible refine Hid.out ?_))
      unfold Hid
      have hz2 : (KL).length + (putL cn 2).length ≤ 1000000000 := by rw [HK1.out, putL_length]; decide
      have hs2 : w.heap.size + 1 ≤ W1.heap.size := X.lt
      refine wpList_appG W1 rfl (.tmp 19) (.tmp 28) rfl (w.heap.size + 1) (.slice (some ⟨gb, 0, none⟩) 1 1) (KL) rfl O0 a1 m1 c1 (putL cn 2) rfl B1 hz2 hs2 ?_
      intro v2 W2 o2 g2
      obtain ⟨a2, m2, c2, rfl⟩ : ∃ a1 m1 c1, v2 = .slice a1 m1 c1 := (by obtain ⟨a1, c1, e1, _⟩ := o2.bs; exact ⟨_, _, _, e1⟩)
      replace X := O0.blkO g2 X neNd5
      replace k := O0.bel g2 k (by omega) k.size
      clear hz2 hs2 g2 O0
      clear B1
      have HK3 : Hid ((KL ++ putL cn 2).length = 3) := by show _ = _; rw [List.length_append, HK1.out, putL_length]
      generalize KL ++ putL cn 2 = K3 at *
      have P0 : Hid (Own W2 (w.heap.size + 1) (.slice a2 m2 c2) (K3 ++ flatL pairL (ps.take 0))) := by show Own _ _ _ _; rw [show K3 ++ flatL pairL (ps.take 0) = K3 from List.append_nil _]; exact o2
      clear o2 HK1
      have y1 : W2.cell? ⟨w.heap.size, 1, none⟩ = some (.slice pa pn pc) := X.cell 1
      go_wp2_with fail
      clear y1
      go_loopw [5, 6] (fun v i wr => ∃ (k : Nat) (oa : Option Addr) (on oc : Nat), k ≤ pn ∧ i = .int .i64 (k : Int) ∧ v = .slice oa on oc ∧ Hid (Own wr (w.heap.size + 1) (.slice oa on oc) (K3 ++ flatL pairL (ps.take k))) ∧ Blk wr w.heap.size [.bool lf, .slice pa pn pc, .slice qa qn qc] 25 ∧ Below w.heap.size w wr) (fun _ i _ => pn - (intOf i).toNat)
      case atStart => exact ⟨0, _, _, _, Nat.zero_le _, rfl, rfl, P0, X, k⟩
      case round =>
        clear P0 X k
        obtain ⟨j, oa, on, oc, hj, rfl, rfl, P, X, k⟩ := hrel
        have y1 : wr.cell? ⟨w.heap.size, 1, none⟩ = some (.slice pa pn pc) := X.cell 1
        by_cases hlt : j < pn
        · skip
          have i0 : (j : Int) < (pn : Int) := by omega
          obtain ⟨x, hx⟩ : ∃ x, ps[j]? = some x := ⟨_, List.getElem?_eq_getElem (by omega)⟩
          obtain ⟨b, o, kp, km, kc, vp, vm, vc, ea, -, -, hB1, hB2, hlb, hrg0⟩ := HN.out.ps.cells (Below.refl _ _) hx
          have ea : pa = some ⟨b, o, none⟩ := ea
          subst ea
          have HBK : Hid (∀ u, Below w.heap.size w u → Bs u kp km kc x.key) := fun u hu => (hB1.keep hu.size fun j hj _ => hu.block j hj).1
          have HBV : Hid (∀ u, Below w.heap.size w u → Bs u vp vm vc x.value) := fun u hu => (hB2.keep hu.size fun j hj _ => hu.block j hj).1
          have hrg : wr.rangeAt b (o + j * 2) [.slice kp km kc, .slice vp vm vc] := fun i v hv => by rw [World.cell?_of_block (w := w) (k.block b hlb)]; exact hrg0 i v hv
          replace hlb : b < wr.heap.size := Nat.lt_of_lt_of_le hlb k.size
          have e1 : x.key.length = km := hB1.1.len
          have e2 : x.value.length = vm := hB2.1.len
          have hck := HCP.out j x hx
          have hsn : K3 ++ flatL pairL (ps.take (j + 1)) = K3 ++ flatL pairL (ps.take j) ++ (putL km 1 ++ putL vm 1) ++ x.key ++ x.value := by
            rw [HSP.out j x hx]
            unfold pairL
            rw [e1, e2]
            simp only [List.append_assoc]
          have hLL : (K3 ++ flatL pairL (ps.take j)).length ≤ 496 := by
            have := HLP.out j
            rw [List.length_append, HK3.out]
            omega
          generalize K3 ++ flatL pairL (ps.take j) = LL at *
          have P := P.out
          have w1 : IntKind.u8.wrap (km : Int) = (km : Int) := by rw [IntKind.wrap_u8]; omega
          have w2 : IntKind.u8.wrap (vm : Int) = (vm : Int) := by rw [IntKind.wrap_u8]; omega
          have HNew : Hid (K3 ++ flatL pairL (ps.take (j + 1)) = LL ++ (putL km 1 ++ putL vm 1) ++ x.key ++ x.value) := hsn
          obtain ⟨gp, hgp⟩ : ∃ g, g = wr.heap.size := ⟨_, rfl⟩
          have z9 : Blk (wr.alloc (.cells #[.slice none 0 0, .slice none 0 0] 44)) gp [.slice none 0 0, .slice none 0 0] 44 := Blk.newAt wr _ _ gp hgp.symm _ rfl
          have k9 : Below wr.heap.size wr (wr.alloc (.cells #[.slice none 0 0, .slice none 0 0] 44)) := below_alloc _ _
          clear hx hsn hB1 hB2 hrg0
          go_wp2_with (first | ((with_reducible refine at_ld 44 ?_); (refine ld 44 (.tmp 40) 2 sizePr _ Try.underlying44 rfl b (o + j * 2) [.slice kp km kc, .slice vp vm vc] rfl hrg rfl ?_)) | ((with_reducible refine at_st 44 ?_); (with_reducible refine Hid.out ?_)))
          unfold Hid
          refine st' 44 (.tmp 7) (.tmp 41) 2 sizePr wr.heap.size 0 [.slice kp km kc, .slice vp vm vc] rfl (by intro u hu; simp only [List.mem_cons, List.not_mem_nil, or_false] at hu; rcases hu with rfl | rfl <;> rfl) (by rw [← hgp]; exact z9.there 0 2 (by simp)) rfl rfl ?_
          intro v5 hv5
          have D : Blk v5 gp [.slice kp km kc, .slice vp vm vc] 44 := (by rw [hv5, ← hgp]; exact z9.setsW _ rfl)
          have k5 : Below wr.heap.size wr v5 := (by rw [hv5]; exact below_sets (Nat.le_refl _) _ k9 0)
          clear hv5 z9 k9 hrg y1
          rw [← hgp]
          clear hgp
          replace X := X.below k5 X.lt
          replace k := k.trans (k5.mono k.size)
          replace P := P.below k5 (Nat.le_refl _)
          clear k5
          have z0 : v5.cell? ⟨gp, 0, none⟩ = some (.slice kp km kc) := D.cell 0
          have z1 : v5.cell? ⟨gp, 1, none⟩ = some (.slice vp vm vc) := D.cell 1
          go_wp2_with (at_builtin; (with_reducible refine Hid.out ?_))
          unfold Hid
          clear z0 z1 w1 w2
          obtain ⟨U, hU⟩ : ∃ U, U = v5.alloc (.cells #[.int .u8 (km : Int), .int .u8 (vm : Int)] 5) := ⟨_, rfl⟩
          rw [← hU]
          have B5 : Bs U (some ⟨v5.heap.size, 0, none⟩) 2 2 (putL km 1 ++ putL vm 1) := by rw [hU]; exact Bs.two v5 km vm (by omega) (by omega)
          have kU : Below v5.heap.size v5 U := by rw [hU]; exact below_alloc _ _
          clear hU
          replace X := X.below kU X.lt
          replace k := k.trans (kU.mono k.size)
          replace P := P.below kU (Nat.le_refl _)
          replace D := D.below kU D.lt
          clear kU
          have hz6 : (LL).length + ((putL km 1 ++ putL vm 1)).length ≤ 1000000000 := by rw [List.length_append, putL_length, putL_length]; omega
          have hs6 : w.heap.size + 1 ≤ U.heap.size := X.lt
          refine wpList_appG U rfl (.tmp 42) (.tmp 51) rfl (w.heap.size + 1) (.slice oa on oc) (LL) rfl P (some ⟨v5.heap.size, 0, none⟩) 2 2 ((putL km 1 ++ putL vm 1)) rfl B5 hz6 hs6 ?_
          intro v6 W6 o6 g6
          obtain ⟨a6, m6, c6, rfl⟩ : ∃ a1 m1 c1, v6 = .slice a1 m1 c1 := (by obtain ⟨a1, c1, e1, _⟩ := o6.bs; exact ⟨_, _, _, e1⟩)
          replace X := P.blkO g6 X neNd5
          replace k := P.bel g6 k (by omega) k.size
          replace D := P.blkO g6 D nePr5
          clear hz6 hs6 g6 P
          clear B5
          have hB1' : Bs W6 kp km kc x.key := (HBK.out W6 k)
          have z0 : W6.cell? ⟨gp, 0, none⟩ = some (.slice kp km kc) := D.cell 0
          go_wp2_with (at_builtin; (with_reducible refine Hid.out ?_))
          unfold Hid
          clear z0
          have hz7 : (LL ++ (putL km 1 ++ putL vm 1)).length + (x.key).length ≤ 1000000000 := by rw [List.length_append, List.length_append, putL_length, putL_length]; omega
          have hs7 : w.heap.size + 1 ≤ W6.heap.size := X.lt
          refine wpList_appG W6 rfl (.tmp 53) (.tmp 55) rfl (w.heap.size + 1) (.slice a6 m6 c6) (LL ++ (putL km 1 ++ putL vm 1)) rfl o6 kp km kc (x.key) rfl hB1' hz7 hs7 ?_
          intro v7 W7 o7 g7
          obtain ⟨a7, m7, c7, rfl⟩ : ∃ a1 m1 c1, v7 = .slice a1 m1 c1 := (by obtain ⟨a1, c1, e1, _⟩ := o7.bs; exact ⟨_, _, _, e1⟩)
          replace X := o6.blkO g7 X neNd5
          replace k := o6.bel g7 k (by omega) k.size
          replace D := o6.blkO g7 D nePr5
          clear hz7 hs7 g7 o6
          have hB2' : Bs W7 vp vm vc x.value := (HBV.out W7 k)
          have z1 : W7.cell? ⟨gp, 1, none⟩ = some (.slice vp vm vc) := D.cell 1
          go_wp2_with (at_builtin; (with_reducible refine Hid.out ?_))
          unfold Hid
          clear z1
          have hz8 : (LL ++ (putL km 1 ++ putL vm 1) ++ x.key).length + (x.value).length ≤ 1000000000 := by rw [List.length_append, List.length_append, List.length_append, putL_length, putL_length]; omega
          have hs8 : w.heap.size + 1 ≤ W7.heap.size := X.lt
          refine wpList_appG W7 rfl (.tmp 57) (.tmp 59) rfl (w.heap.size + 1) (.slice a7 m7 c7) (LL ++ (putL km 1 ++ putL vm 1) ++ x.key) rfl o7 vp vm vc (x.value) rfl hB2' hz8 hs8 ?_
          intro v8 W8 o8 g8
          obtain ⟨a8, m8, c8, rfl⟩ : ∃ a1 m1 c1, v8 = .slice a1 m1 c1 := (by obtain ⟨a1, c1, e1, _⟩ := o8.bs; exact ⟨_, _, _, e1⟩)
          replace X := o7.blkO g8 X neNd5
          replace k := o7.bel g8 k (by omega) k.size
          replace D := o7.blkO g8 D nePr5
          clear hz8 hs8 g8 o7
          have PN : Hid (Own W8 (w.heap.size + 1) (.slice a8 m8 c8) (K3 ++ flatL pairL (ps.take (j + 1)))) := by rw [HNew.out]; exact o8
          clear o8 HNew D hB1' hB2'
          go_wp2_with fail
          go_roundw
          case rel => exact ⟨j + 1, a8, m8, c8, by omega, by go_num, rfl, PN, X, k⟩
          case measure => simp [intOf]; omega
        · have i0 : ¬ (j : Int) < (pn : Int) := by omega
          obtain rfl : j = pn := by omega
          have P := P.out
          have HK4 : Hid ((K3 ++ flatL pairL (ps.take j)).length ≤ 496) := by
            have := HLP.out j
            show _ ≤ _
            rw [List.length_append, HK3.out]
            omega
          generalize K3 ++ flatL pairL (ps.take j) = K4 at *
          have P0 : Hid (Own wr (w.heap.size + 1) (.slice oa on oc) (K4 ++ flatL kidL (ks.take 0))) := by show Own _ _ _ _; rw [show K4 ++ flatL kidL (ks.take 0) = K4 from List.append_nil _]; exact P
          clear P HK3 HSP HLP HCP hlt
          go_wp2_with fail
          clear y1 i0
          rename World => wo
          go_loopw [5, 8] (fun v i wr => ∃ (k : Nat) (oa : Option Addr) (on oc : Nat), k ≤ qn ∧ i = .int .i64 (k : Int) ∧ v = .slice oa on oc ∧ Hid (Own wr (w.heap.size + 1) (.slice oa on oc) (K4 ++ flatL kidL (ks.take k))) ∧ Blk wr w.heap.size [.bool lf, .slice pa j pc, .slice qa qn qc] 25 ∧ Below w.heap.size w wr) (fun _ i _ => qn - (intOf i).toNat)
          case atStart => exact ⟨0, _, _, _, Nat.zero_le _, rfl, rfl, P0, X, k⟩
          case round =>
            clear P0 X k
            obtain ⟨i, oa, on, oc, hi, rfl, rfl, P, X, k⟩ := hrel
            have y1 : wr.cell? ⟨w.heap.size, 2, none⟩ = some (.slice qa qn qc) := X.cell 2
            by_cases hlt : i < qn
            · skip
              have i0 : (i : Int) < (qn : Int) := by omega
              obtain ⟨x, hx⟩ : ∃ x, ks[i]? = some x := ⟨_, List.getElem?_eq_getElem (by omega)⟩
              obtain ⟨b, o, kp, km, kc, ea, -, -, -, hB1, hlb, hrg0⟩ := HN.out.ks.cells (Below.refl _ _) hx
              have ea : qa = some ⟨b, o, none⟩ := ea
              subst ea
              have HBK : Hid (∀ u, Below w.heap.size w u → Bs u kp km kc x.key) := fun u hu => (hB1.keep hu.size fun j hj _ => hu.block j hj).1
              have hrg : wr.rangeAt b (o + i * 3) [.slice kp km kc, .int .i64 x.page, .int .i64 x.epoch] := fun i v hv => by rw [World.cell?_of_block (w := w) (k.block b hlb)]; exact hrg0 i v hv
              replace hlb : b < wr.heap.size := Nat.lt_of_lt_of_le hlb k.size
              have e1 : x.key.length = km := hB1.1.len
              obtain ⟨hck, p0, p1, q0, q1⟩ := HCK.out i x hx
              have hsn : K4 ++ flatL kidL (ks.take (i + 1)) = K4 ++ flatL kidL (ks.take i) ++ putL km 1 ++ putL x.page.toNat 2 ++ putL x.epoch.toNat 8 ++ x.key := by
                rw [HSK.out i x hx]
                unfold kidL
                rw [e1]
                simp only [List.append_assoc]
              have hLL : (K4 ++ flatL kidL (ks.take i)).length ≤ 1000 := by
                have := HLK.out i
                have := HK4.out
                rw [List.length_append]
                omega
              generalize K4 ++ flatL kidL (ks.take i) = LL at *
              have P := P.out
              have w1 : IntKind.u8.wrap (km : Int) = (km : Int) := by rw [IntKind.wrap_u8]; omega
              have HNew : Hid (K4 ++ flatL kidL (ks.take (i + 1)) = LL ++ putL km 1 ++ putL x.page.toNat 2 ++ putL x.epoch.toNat 8 ++ x.key) := hsn
              obtain ⟨ky, pg, ep⟩ := x
              dsimp only at *
              have w3 : IntKind.u64.wrap pg = pg := by rw [IntKind.wrap_u64]; omega
              have w4 : IntKind.u64.wrap ep = ep := by rw [IntKind.wrap_u64]; omega
              obtain ⟨gp, hgp⟩ : ∃ g, g = wr.heap.size := ⟨_, rfl⟩
              have z9 : Blk (wr.alloc (.cells #[.slice none 0 0, .int .i64 0, .int .i64 0] 46)) gp [.slice none 0 0, .int .i64 0, .int .i64 0] 46 := Blk.newAt wr _ _ gp hgp.symm _ rfl
              have k9 : Below wr.heap.size wr (wr.alloc (.cells #[.slice none 0 0, .int .i64 0, .int .i64 0] 46)) := below_alloc _ _
              clear hx hsn hB1 hrg0
              go_wp2_with (first | ((with_reducible refine at_ld 46 ?_); (refine ld 46 (.tmp 71) 3 sizeKd _ Try.underlying46 rfl b (o + i * 3) [.slice kp km kc, .int .i64 pg, .int .i64 ep] rfl hrg rfl ?_)) | ((with_reducible refine at_st 46 ?_); (with_reducible refine Hid.out ?_)))
              unfold Hid
              refine st' 46 (.tmp 9) (.tmp 72) 3 sizeKd wr.heap.size 0 [.slice kp km kc, .int .i64 pg, .int .i64 ep] rfl (by intro u hu; simp only [List.mem_cons, List.not_mem_nil, or_false] at hu; rcases hu with rfl | rfl | rfl <;> rfl) (by rw [← hgp]; exact z9.there 0 3 (by simp)) rfl rfl ?_
              intro v5 hv5
              have D : Blk v5 gp [.slice kp km kc, .int .i64 pg, .int .i64 ep] 46 := (by rw [hv5, ← hgp]; exact z9.setsW _ rfl)
              have k5 : Below wr.heap.size wr v5 := (by rw [hv5]; exact below_sets (Nat.le_refl _) _ k9 0)
              clear hv5 z9 k9 hrg y1
              rw [← hgp]
              clear hgp
              replace X := X.below k5 X.lt
              replace k := k.trans (k5.mono k.size)
              replace P := P.below k5 (Nat.le_refl _)
              clear k5
              have z0 : v5.cell? ⟨gp, 0, none⟩ = some (.slice kp km kc) := D.cell 0
              go_wp2_with (at_builtin; (with_reducible refine Hid.out ?_))
              unfold Hid
              clear z0 w1
              obtain ⟨U, hU⟩ : ∃ U, U = v5.alloc (.cells #[.int .u8 (km : Int)] 5) := ⟨_, rfl⟩
              rw [← hU]
              have B5 : Bs U (some ⟨v5.heap.size, 0, none⟩) 1 1 (putL km 1) := by rw [hU]; exact Bs.oneN v5 km (by omega)
              have kU : Below v5.heap.size v5 U := by rw [hU]; exact below_alloc _ _
              clear hU
              replace X := X.below kU X.lt
              replace k := k.trans (kU.mono k.size)
              replace P := P.below kU (Nat.le_refl _)
              replace D := D.below kU D.lt
              clear kU
              have hz6 : (LL).length + (putL km 1).length ≤ 1000000000 := by rw [putL_length]; omega
              have hs6 : w.heap.size + 1 ≤ U.heap.size := X.lt
              refine wpList_appG U rfl (.tmp 73) (.tmp 78) rfl (w.heap.size + 1) (.slice oa on oc) (LL) rfl P (some ⟨v5.heap.size, 0, none⟩) 1 1 (putL km 1) rfl B5 hz6 hs6 ?_
              intro v6 W6 o6 g6
              obtain ⟨a6, m6, c6, rfl⟩ : ∃ a1 m1 c1, v6 = .slice a1 m1 c1 := (by obtain ⟨a1, c1, e1, _⟩ := o6.bs; exact ⟨_, _, _, e1⟩)
              replace X := P.blkO g6 X neNd5
              replace k := P.bel g6 k (by omega) k.size
              replace D := P.blkO g6 D neKd5
              clear hz6 hs6 g6 P
              clear B5
              have z1 : W6.cell? ⟨gp, 1, none⟩ = some (.int .i64 pg) := D.cell 1
              have CP0 := rPut 2 pg 2 W6 (by decide) (by decide) (by omega) (by omega) (by decide)
              rw [show (2 : Int).toNat = 2 from rfl] at CP0
              have CP : Hid (Calls Try.prog 32 #[.int .u64 pg, .int .i64 2] W6 (Gives W6 (putL pg.toNat 2))) := CP0
              clear CP0
              go_wp2_with (go_at_call 32; (with_reducible refine Hid.out ?_))
              unfold Hid
              refine CP.out.mono ?_
              rintro e W7a ⟨a1, m1, c1, rfl, o1, k1⟩
              clear CP z1
              have B1 := o1.toBs
              clear o1
              replace X := X.below k1 X.lt
              replace k := k.trans (k1.mono k.size)
              replace D := D.below k1 D.lt
              replace o6 := o6.below k1 (Nat.le_refl _)
              clear k1
              go_wp2_with (at_builtin; (with_reducible refine Hid.out ?_))
              unfold Hid
              have hz7 : (LL ++ putL km 1).length + (putL pg.toNat 2).length ≤ 1000000000 := by simp only [List.length_append, putL_length]; omega
              have hs7 : w.heap.size + 1 ≤ W7a.heap.size := X.lt
              refine wpList_appG W7a rfl (.tmp 80) (.tmp 84) rfl (w.heap.size + 1) (.slice a6 m6 c6) (LL ++ putL km 1) rfl o6 a1 m1 c1 (putL pg.toNat 2) rfl B1 hz7 hs7 ?_
              intro v7 W7 o7 g7
              obtain ⟨a7, m7, c7, rfl⟩ : ∃ a1 m1 c1, v7 = .slice a1 m1 c1 := (by obtain ⟨a1, c1, e1, _⟩ := o7.bs; exact ⟨_, _, _, e1⟩)
              replace X := o6.blkO g7 X neNd5
              replace k := o6.bel g7 k (by omega) k.size
              replace D := o6.blkO g7 D neKd5
              clear hz7 hs7 g7 o6
              clear B1
              have z1 : W7.cell? ⟨gp, 2, none⟩ = some (.int .i64 ep) := D.cell 2
              have CP0 := rPut 8 ep 8 W7 (by decide) (by decide) (by omega) (by omega) (by decide)
              rw [show (8 : Int).toNat = 8 from rfl] at CP0
              have CP : Hid (Calls Try.prog 32 #[.int .u64 ep, .int .i64 8] W7 (Gives W7 (putL ep.toNat 8))) := CP0
              clear CP0
              go_wp2_with (go_at_call 32; (with_reducible refine Hid.out ?_))
              unfold Hid
              refine CP.out.mono ?_
              rintro e W8a ⟨a1, m1, c1, rfl, o1, k1⟩
              clear CP z1
              have B1 := o1.toBs
              clear o1
              replace X := X.below k1 X.lt
              replace k := k.trans (k1.mono k.size)
              replace D := D.below k1 D.lt
              replace o7 := o7.below k1 (Nat.le_refl _)
              clear k1
              go_wp2_with (at_builtin; (with_reducible refine Hid.out ?_))
              unfold Hid
              have hz8 : (LL ++ putL km 1 ++ putL pg.toNat 2).length + (putL ep.toNat 8).length ≤ 1000000000 := by simp only [List.length_append, putL_length]; omega
              have hs8 : w.heap.size + 1 ≤ W8a.heap.size := X.lt
              refine wpList_appG W8a rfl (.tmp 86) (.tmp 90) rfl (w.heap.size + 1) (.slice a7 m7 c7) (LL ++ putL km 1 ++ putL pg.toNat 2) rfl o7 a1 m1 c1 (putL ep.toNat 8) rfl B1 hz8 hs8 ?_
              intro v8 W8 o8 g8
              obtain ⟨a8, m8, c8, rfl⟩ : ∃ a1 m1 c1, v8 = .slice a1 m1 c1 := (by obtain ⟨a1, c1, e1, _⟩ := o8.bs; exact ⟨_, _, _, e1⟩)
              replace X := o7.blkO g8 X neNd5
              replace k := o7.bel g8 k (by omega) k.size
              replace D := o7.blkO g8 D neKd5
              clear hz8 hs8 g8 o7
              clear B1
              have hB1' : Bs W8 kp km kc ky := HBK.out W8 k
              have z0 : W8.cell? ⟨gp, 0, none⟩ = some (.slice kp km kc) := D.cell 0
              go_wp2_with (at_builtin; (with_reducible refine Hid.out ?_))
              unfold Hid
              clear z0
              have hz9 : (LL ++ putL km 1 ++ putL pg.toNat 2 ++ putL ep.toNat 8).length + (ky).length ≤ 1000000000 := by simp only [List.length_append, putL_length]; omega
              have hs9 : w.heap.size + 1 ≤ W8.heap.size := X.lt
              refine wpList_appG W8 rfl (.tmp 92) (.tmp 94) rfl (w.heap.size + 1) (.slice a8 m8 c8) (LL ++ putL km 1 ++ putL pg.toNat 2 ++ putL ep.toNat 8) rfl o8 kp km kc (ky) rfl hB1' hz9 hs9 ?_
              intro v9 W9 o9 g9
              obtain ⟨a9, m9, c9, rfl⟩ : ∃ a1 m1 c1, v9 = .slice a1 m1 c1 := (by obtain ⟨a1, c1, e1, _⟩ := o9.bs; exact ⟨_, _, _, e1⟩)
              replace X := o8.blkO g9 X neNd5
              replace k := o8.bel g9 k (by omega) k.size
              replace D := o8.blkO g9 D neKd5
              clear hz9 hs9 g9 o8
              have PN : Hid (Own W9 (w.heap.size + 1) (.slice a9 m9 c9) (K4 ++ flatL kidL (ks.take (i + 1)))) := by rw [HNew.out]; exact o9
              clear o9 HNew D hB1'
              go_wp2_with fail
              go_roundw
              case rel => exact ⟨i + 1, a9, m9, c9, by omega, by go_num, rfl, PN, X, k⟩
              case measure => simp [intOf]; omega
            · have i0 : ¬ (i : Int) < (qn : Int) := by omega
              obtain rfl : i = qn := by omega
              have P := P.out
              have P0 : Hid (Own wr (w.heap.size + 1) (.slice oa on oc) (K4 ++ flatL kidL (ks.take i) ++ List.replicate 0 0)) := by show Own _ _ _ _; rw [show K4 ++ flatL kidL (ks.take i) ++ List.replicate 0 0 = K4 ++ flatL kidL (ks.take i) from List.append_nil _]; exact P
              generalize K4 ++ flatL kidL (ks.take i) = K5 at *
              clear P HSK HLK HCK hlt
              go_wp2_with fail
              clear y1 i0
              rename World => wo2
              go_loopw [5] (fun v wr => ∃ (k : Nat) (oa : Option Addr) (on oc : Nat), k ≤ 496 - sz ∧ v = .slice oa on oc ∧ Hid (Own wr (w.heap.size + 1) (.slice oa on oc) (K5 ++ List.replicate k 0)) ∧ Hid (on = sz + k) ∧ w.heap.size + 1 ≤ wr.heap.size ∧ Below w.heap.size w wr) (fun v _ => 496 - lenV18 v)
              case atStart => exact ⟨0, oa, on, oc, Nat.zero_le _, rfl, P0, by have := P0.out.toBs.len; rw [List.length_append, HTL.out] at this; exact (show on = sz + 0 from by simpa using this.symm), X.lt, k⟩
              case round =>
                clear P0 X k
                obtain ⟨t, ob, om, od, ht, rfl, P, hom, hs, k⟩ := hrel
                have P := P.out
                by_cases hlt : om < 496
                · have i0 : (om : Int) < 496 := by omega
                  have ht2 : t + 1 ≤ 496 - sz := by have := hom.out; omega
                  go_wp2_with (at_builtin; (with_reducible refine Hid.out ?_))
                  unfold Hid
                  obtain ⟨U, hU⟩ : ∃ U, U = wr.alloc (.cells #[.int .u8 0] 5) := ⟨_, rfl⟩
                  rw [← hU]
                  have B5 : Bs U (some ⟨wr.heap.size, 0, none⟩) 1 1 [0] := by rw [hU]; exact Bs.made wr [0] _ rfl (by decide)
                  have kU : Below wr.heap.size wr U := by rw [hU]; exact below_alloc _ _
                  clear hU
                  replace P := P.below kU (Nat.le_refl _)
                  replace k := k.trans (kU.mono k.size)
                  replace hs := Nat.le_trans hs kU.size
                  clear kU
                  have hz : (K5 ++ List.replicate t 0).length + ([0] : List UInt8).length ≤ 1000000000 := by rw [List.length_append, HTL.out, List.length_replicate, List.length_singleton]; omega
                  refine wpList_appG U rfl (.tmp 99) (.tmp 100) rfl (w.heap.size + 1) (.slice ob om od) (K5 ++ List.replicate t 0) rfl P (some ⟨wr.heap.size, 0, none⟩) 1 1 [0] rfl B5 hz hs ?_
                  intro v6 W6 o6 g6
                  obtain ⟨a6, m6, c6, rfl⟩ : ∃ a1 m1 c1, v6 = .slice a1 m1 c1 := (by obtain ⟨a1, c1, e1, _⟩ := o6.bs; exact ⟨_, _, _, e1⟩)
                  have k6 := P.bel g6 k (by omega) k.size
                  have hs6 := Nat.le_trans hs g6.size
                  have PN : Hid (Own W6 (w.heap.size + 1) (.slice a6 m6 c6) (K5 ++ List.replicate (t + 1) 0)) := by
                    show Own _ _ _ _
                    rw [List.replicate_succ', ← List.append_assoc]
                    exact o6
                  have hm6 : Hid (m6 = sz + (t + 1)) := by
                    have := PN.out.toBs.len
                    rw [List.length_append, HTL.out, List.length_replicate] at this
                    exact this.symm
                  clear o6 g6 k hs P B5 hz
                  go_wp2_with fail
                  go_roundw
                  case rel => exact ⟨t + 1, a6, m6, c6, ht2, rfl, PN, hm6, hs6, k6⟩
                  case measure => have := hm6.out; have := hom.out; simp [lenV18]; omega
                · have i0 : ¬ (om : Int) < 496 := by omega
                  have he : t = 496 - sz := by have := hom.out; omega
                  have B6 := P.toBs
                  rw [he] at B6
                  have B7 : Hid (Bs wr ob om od BB) := by show Bs _ _ _ _ _; rw [HBB.out]; exact B6
                  clear B6 P HBB he
                  go_wp2_with fail
                  go_ret2
                  exact ⟨ob, om, od, rfl, B7, k⟩
  · skip
    have hB : putN ⟨lf, ps, ks⟩ = [] := if_neg (by rw [hcd]; exact hc)
    rw [hB]
    have b1 : (cd == 0) = false := by simpa using hc
    have b2 : (cd != 0) = true := by simpa using hc
    clear hB HN h hl
    go_enter Try.func10, Try.ntmps10
    go_upto_region 1 with fail
    rw [← hV]
    clear hV
    go_wp2_with (first | ((with_reducible refine at_ld 25 ?_); (refine ld 25 (.tmp 1) 3 sizeNd _ Try.underlying25 rfl (w.heap.size) 0 [.bool lf, .slice pa pn pc, .slice qa qn qc] rfl X.whole rfl ?_)) | (go_at_call 15; (with_reducible refine Hid.out ?_)))
    unfold Hid
    refine CC.out.mono ?_
    rintro e w1 ⟨rfl, k1⟩
    clear CC
    replace X := X.below k1 X.lt
    replace k := k.trans (k1.mono k.size)
    clear k1
    go_wp2_with fail
    go_ret2
    exact ⟨none, 0, 0, rfl, (Own.nil w1 0).toBs, k⟩

end Go.Proofs.Ytnmmopneacdgfaa

/-
  The contracts of the reference's reader: fail, Bytes, Number, Text, End. Condition: at most 100000 bytes.
-/
namespace Go.Proofs.Ytnmmopneacdgfaa
open Go.RowKit

set_option maxHeartbeats 400000 in
theorem rFail (w : World) (a : Option Addr) (n q : Nat) (c d : Int) :
    Calls Try.prog 86 #[.agg #[.slice a n q, .int .i64 c], .int .i64 d] w fun e w' => e = .returned (.agg #[.slice a n q, .int .i64 (if c = 0 then d else c)]) ∧ Below w.heap.size w w' := by
  by_cases hc : c = 0
  · subst hc
    rw [if_pos rfl]
    go_enter Try.func86, Try.ntmps86
    go_wp2
    exact bodyPost_ret (v := .agg #[.slice a n q, .int .i64 d]) (by simp [results, Try.results86, go_sem]) rfl ⟨rfl, below3 _ _ _ _⟩
  · have hc' : (c == 0) = false := by simp [hc]
    rw [if_neg hc]
    go_enter Try.func86, Try.ntmps86
    go_wp2
    exact bodyPost_ret (v := .agg #[.slice a n q, .int .i64 c]) (by simp [results, Try.results86, go_sem]) rfl ⟨rfl, below3 _ _ _ _⟩

/-- A box of two cells, behind what a callee made. -/
theorem box_facts {w : World} {o : Obj} {x y : Value} {t : TypeId} {w1 : World} (hb : Below ((w.alloc o).alloc (.cells #[x, y] t)).heap.size ((w.alloc o).alloc (.cells #[x, y] t)) w1) :
    w1.cell? ⟨w.heap.size + 1, 0, none⟩ = some x ∧ w1.cell? ⟨w.heap.size + 1, 1, none⟩ = some y ∧ w1.frozen? ⟨w.heap.size + 1, 0, none⟩ = false ∧ w1.frozen? ⟨w.heap.size + 1, 1, none⟩ = false ∧ w.heap.size + 1 < w1.heap.size := by
  have hz := hb.size
  rw [size2] at hz hb
  have e : (w.alloc o).heap.size = w.heap.size + 1 := by simp
  refine ⟨?_, ?_, ?_, ?_, by omega⟩
  · rw [hb.cell (p := ⟨w.heap.size + 1, 0, none⟩) (by simp), ← e, cell_new]; rfl
  · rw [hb.cell (p := ⟨w.heap.size + 1, 1, none⟩) (by simp), ← e, cell_new]; rfl
  · rw [hb.frozen (p := ⟨w.heap.size + 1, 0, none⟩) (by simp), ← e, free_new]
  · rw [hb.frozen (p := ⟨w.heap.size + 1, 1, none⟩) (by simp), ← e, free_new]
theorem box_below {w : World} {o p : Obj} {w1 : World} (hb : Below ((w.alloc o).alloc p).heap.size ((w.alloc o).alloc p) w1) (u v : Value) : Below w.heap.size w ((w1.setCell ⟨w.heap.size + 1, 0, none⟩ u).setCell ⟨w.heap.size + 1, 1, none⟩ v) :=
  ((((below2 w o p).trans (hb.mono (by rw [size2]; omega))).setCell (p := ⟨w.heap.size + 1, 0, none⟩) (by simp) _).setCell (p := ⟨w.heap.size + 1, 1, none⟩) (by simp) _)

theorem box_read {w1 : World} {b : Nat} {x y : Value} (g0 : w1.cell? ⟨b, 0, none⟩ = some x) (g1 : w1.cell? ⟨b, 1, none⟩ = some y) (u v : Value) :
    ((w1.setCell ⟨b, 0, none⟩ u).setCell ⟨b, 1, none⟩ v).cell? ⟨b, 0, none⟩ = some u ∧ ((w1.setCell ⟨b, 0, none⟩ u).setCell ⟨b, 1, none⟩ v).cell? ⟨b, 1, none⟩ = some v := by
  have h0 := cell_set (i := 0) (v := u) g0
  have h1 := cell_set (i := 0) (v := u) g1
  have h2 := cell_set (i := 1) (v := v) h0
  have h3 := cell_set (i := 1) (v := v) h1
  exact ⟨by simpa using h2, by simpa using h3⟩

theorem box_past {w1 : World} {b i j k : Nat} {x u v : Value} (h : ((w1.setCell ⟨b, i, none⟩ u).setCell ⟨b, j, none⟩ v).cell? ⟨b, k, none⟩ = some x) (o : Obj) (_hb : b < w1.heap.size) :
    ((((w1.setCell ⟨b, i, none⟩ u).setCell ⟨b, j, none⟩ v).alloc o).drew).cell? ⟨b, k, none⟩ = some x := by
  rw [((below_alloc ((w1.setCell ⟨b, i, none⟩ u).setCell ⟨b, j, none⟩ v) o).drew).cell (p := ⟨b, k, none⟩) (lt_of_cell h)]
  exact h

/-- What a read of the reference's leaves. -/
def RefReads (w : World) (a : Option Addr) (n q : Nat) (l : List UInt8) (s : List UInt8 × Int × List UInt8) (e : Ending) (w' : World) : Prop :=
  ∃ a' n' q' a2 n2 q2, e = .returned (.tuple #[.agg #[.slice a' n' q', .int .i64 s.2.1], .slice a2 n2 q2]) ∧ (∀ W, Bs W a n q l → Bs W a' n' q' s.1 ∧ Bs W a2 n2 q2 s.2.2) ∧ Below w.heap.size w w'

set_option maxHeartbeats 1000000 in
theorem rBytes (w : World) {a : Option Addr} {n q : Nat} {l : List UInt8} (hb : Bs w a n q l) (c k : Int) (hk : -9223372036854775808 ≤ k) (hk' : k ≤ 9223372036854775807) :
    Calls Try.prog 78 #[.agg #[.slice a n q, .int .i64 c], .int .i64 k] w (RefReads w a n q l (rdBytes l c k)) := by
  have hl := hb.len
  have hmax := hb.max
  by_cases hc : c = 0
  · subst hc
    by_cases hn : k < 0 ∨ (n : Int) < k
    · have e : rdBytes l 0 k = (l, 3, []) := by unfold rdBytes; rw [if_neg (by simp), if_pos (by omega)]
      rw [e]
      have hF : Hid (∀ w1, Calls Try.prog 86 #[.agg #[.slice a n q, .int .i64 0], .int .i64 3] w1 fun e w' => e = .returned (.agg #[.slice a n q, .int .i64 3]) ∧ Below w1.heap.size w1 w') := fun w1 => rFail w1 a n q 0 3
      clear e
      rcases hn with hn | hn
      · go_enter Try.func78, Try.ntmps78
        go_wp2_with (go_at_call 86; refine (hF.out _).mono ?_; rintro e w1 ⟨rfl, hb1⟩; obtain ⟨g0, g1, f0, f1, g2⟩ := box_facts hb1)
        obtain ⟨r0, r1⟩ := box_read g0 g1 (.slice a n q) (.int .i64 3)
        exact bodyPost_ret (v := .tuple #[.agg #[.slice a n q, .int .i64 3], .slice none 0 0]) (by simp [results, Try.results78, go_sem, r0, r1]) rfl ⟨a, n, q, none, 0, 0, rfl, fun W h => ⟨h, Bs.nil W⟩, box_below hb1 _ _⟩
      · have hn' : ¬ k < 0 := by omega
        go_enter Try.func78, Try.ntmps78
        go_wp2_with (go_at_call 86; refine (hF.out _).mono ?_; rintro e w1 ⟨rfl, hb1⟩; obtain ⟨g0, g1, f0, f1, g2⟩ := box_facts hb1)
        obtain ⟨r0, r1⟩ := box_read g0 g1 (.slice a n q) (.int .i64 3)
        exact bodyPost_ret (v := .tuple #[.agg #[.slice a n q, .int .i64 3], .slice none 0 0]) (by simp [results, Try.results78, go_sem, r0, r1]) rfl ⟨a, n, q, none, 0, 0, rfl, fun W h => ⟨h, Bs.nil W⟩, box_below hb1 _ _⟩
    · obtain ⟨m, rfl⟩ : ∃ m : Nat, k = m := ⟨k.toNat, by omega⟩
      have hm : m ≤ n := by omega
      have e : rdBytes l 0 m = (l.drop m, 0, l.take m) := by unfold rdBytes; rw [if_neg (by simp), if_neg (by omega)]; simp
      rw [e]
      obtain ⟨s1, s2⟩ := hb.cutHigh m hm
      obtain ⟨a2, q2, t1, t2, t3⟩ := hb.cutLow m hm
      have T : Hid (∀ W, Bs W a n q l → Bs W a2 (n - m) q2 (l.drop m) ∧ Bs W a m q (l.take m)) := fun W h => ⟨t2 W h, s2 W h⟩
      have h0 : ¬ (m : Int) < 0 := by omega
      have h00 : ¬ (n : Int) < m := by omega
      clear t2 t3 s2 e hb hl hn
      go_enter Try.func78, Try.ntmps78
      go_wp2_with fail
      go_region
      all_goals go_wp2
      exact bodyPost_ret (v := .tuple #[.agg #[.slice a2 (n - m) q2, .int .i64 0], .slice a m q]) (by simp [results, Try.results78, go_sem]) rfl ⟨a2, n - m, q2, a, m, q, rfl, T.out, (below2 _ _ _).drew⟩
  · have hc' : (c == 0) = false := by simp [hc]
    have e : rdBytes l c k = (l, c, []) := by unfold rdBytes; rw [if_pos hc]
    rw [e]
    clear e
    go_enter Try.func78, Try.ntmps78
    go_wp2_with fail
    refine bodyPost_ret (v := .tuple #[.agg #[.slice a n q, .int .i64 c], .slice none 0 0]) (by simp [results, Try.results78, go_sem]) rfl ⟨a, n, q, none, 0, 0, rfl, fun W h => ⟨h, Bs.nil W⟩, ?_⟩
    exact below2 _ _ _

set_option maxHeartbeats 1000000 in
theorem rNumber (w : World) {a : Option Addr} {n q : Nat} {l : List UInt8} (hb : Bs w a n q l) (c k : Int) (hk : -9223372036854775808 ≤ k) (hk' : k ≤ 9223372036854775807) :
    Calls Try.prog 77 #[.agg #[.slice a n q, .int .i64 c], .int .i64 k] w fun e w' => ∃ a' n' q', e = .returned (.tuple #[.agg #[.slice a' n' q', .int .i64 (rdBytes l c k).2.1], .int .u64 (getN (rdBytes l c k).2.2 : Nat)]) ∧ (∀ W, Bs W a n q l → Bs W a' n' q' (rdBytes l c k).1) ∧ Below w.heap.size w w' := by
  have hB : Hid (∀ w1, Below w.heap.size w w1 → Calls Try.prog 78 #[.agg #[.slice a n q, .int .i64 c], .int .i64 k] w1 (RefReads w1 a n q l (rdBytes l c k))) := fun w1 h1 => rBytes w1 (hb.below h1 (Nat.le_refl _)) c k hk hk'
  have HB : Hid (Bs w a n q l) := hb
  clear hb
  generalize rdBytes l c k = s at *
  go_enter Try.func77, Try.ntmps77
  go_wp2_with fail
  refine (hB.out _ (below2 _ _ _)).mono ?_
  rintro e w1 ⟨a', n', q', a2, n2, q2, rfl, hT, hb1⟩
  obtain ⟨g0, g1, f0, f1, g2⟩ := box_facts hb1
  have b1 : Hid (Below w.heap.size w w1) := (below2 _ _ _).trans (hb1.mono (by rw [size2]; omega))
  have HT : Hid (∀ W, Bs W a n q l → Bs W a' n' q' s.1 ∧ Bs W a2 n2 q2 s.2.2) := hT
  clear hT hB
  have hG : Hid (∀ o, Bs (w1.alloc o).drew a2 n2 q2 s.2.2) := fun o => (HT.out _ (HB.out.below ((b1.out.alloc b1.out.size o).drew) (Nat.le_refl _))).2
  go_wp2_with fail
  go_region_with (go_at_call 40; refine (rGet _ (hG.out _)).mono ?_; rintro e w2 ⟨rfl, rfl⟩)
  all_goals go_wp2
  all_goals
    obtain ⟨r0, r1⟩ := box_read g0 g1 (.slice a' n' q') (.int .i64 s.2.1)
    refine bodyPost_ret (v := .tuple #[.agg #[.slice a' n' q', .int .i64 s.2.1], .int .u64 (getN s.2.2 : Nat)]) (by simp [results, Try.results77, go_sem, Act.put, box_past r0 _ g2, box_past r1 _ g2]) rfl ⟨a', n', q', rfl, fun W h => (HT.out W h).1, ?_⟩
    exact (((b1.out.setCell (p := ⟨w.heap.size + 1, 0, none⟩) (by simp) _).setCell (p := ⟨w.heap.size + 1, 1, none⟩) (by simp) _).alloc (by simpa using b1.out.size) _).drew
end Go.Proofs.Ytnmmopneacdgfaa
