/-
  6 texts in one. No statement of the seat is proved here.
-/
import Derived.Test.YtlenmkhmkommcaaGreatJ9
import Derived.Lib.SlBytesConst
import Derived.Maps.AppendAt
/-
  The contract of the program's Put: the lowest bytes of a number, the highest first, in memory of the call's own. Conditions: the number fits 64 bits; the size is at most 1000000.
-/
namespace Go.Proofs.YtlenmkhmkommcaaGreat
open Go.RowKit

theorem put_start {n m : Nat} {w : World} {base : Nat} {L : List UInt8} (e : L = putL n m) {v : Value} (h : Own w base v L) : Own w base v (putL n m) := by rw [← e]; exact h

/-- One byte more, from behind. -/
theorem put_more {n m t q : Nat} (ht : t < m) (hq : q = n / 256 ^ t) : (List.replicate (m - t) 0 ++ putL n t).set (m - 1 - t) (UInt8.ofNat q) = List.replicate (m - (t + 1)) 0 ++ putL n (t + 1) := by
  rw [putL_cons, hq]
  obtain ⟨d, rfl⟩ : ∃ d, m = d + 1 + t := ⟨m - 1 - t, by omega⟩
  rw [show d + 1 + t - t = d + 1 from by omega, show d + 1 + t - 1 - t = d from by omega, show d + 1 + t - (t + 1) = d from by omega, List.replicate_succ', List.append_assoc]
  rw [List.set_append_right _ _ (by simp)]
  simp

theorem put_div {n t q : Nat} (H : Hid (q = n / 256 ^ t)) : (q : Int) / 256 = ((n / 256 ^ (t + 1) : Nat) : Int) := by
  rw [H.out, Nat.pow_succ, ← Nat.div_div_eq_div_mul]
  omega
theorem put_done {n m t : Nat} (ht : t ≤ m) (H : Hid (0 = n / 256 ^ t)) : List.replicate (m - t) 0 ++ putL n t = putL n m := by
  rw [putL_rest t (m - t) n H.out.symm, show m - t + t = m from by omega]
theorem put_full {n m t : Nat} (ht : t ≤ m) (h : ¬ t < m) : List.replicate (m - t) 0 ++ putL n t = putL n m := by
  have : t = m := by omega
  subst this
  simp

set_option maxHeartbeats 400000 in
theorem oPut (n s : Int) (w : World) (hs : s ≤ 1000000) (hn0 : 0 ≤ n) (hn : n ≤ 18446744073709551615) (hlo : -9223372036854775808 ≤ s) :
    Calls Tryz.prog 86 #[.int .u64 n, .int .i64 s] w (Gives w (putL n.toNat s.toNat)) := by
  by_cases h1 : s < 1
  · have e : s.toNat = 0 := by omega
    rw [e]
    clear e
    go_enter Tryz.func86, Tryz.ntmps86
    go_wp2
    go_ret
    exact Gives.mk (Own.nil _ _) (Below.refl _ _)
  · obtain ⟨m, rfl⟩ : ∃ m : Nat, s = m := ⟨s.toNat, by omega⟩
    obtain ⟨n, rfl⟩ : ∃ q : Nat, n = q := ⟨n.toNat, by omega⟩
    rw [Int.toNat_natCast, Int.toNat_natCast]
    have h2 : ¬ (2147483647 : Int) < m := by omega
    go_enter Tryz.func86, Tryz.ntmps86
    go_wp2_with (at_make; refine wpList_mkn _ rfl _ _ rfl w.heap.size m _ rfl rfl rfl (by omega) (Nat.le_refl _) ?_; intro g w1 hg hgl hown hbel)
    go_loopw [0, 6] (fun q i wr => ∃ t : Nat, t ≤ m ∧ i = .int .i64 ((m : Int) - 1 - t) ∧ q = .int .u64 ((n / 256 ^ t : Nat) : Int) ∧ Own wr w.heap.size (.slice (some ⟨g, 0, none⟩) m m) (List.replicate (m - t) 0 ++ putL n t) ∧ Below w.heap.size w wr) (fun _ i _ => (intOf i + 1).toNat)
    case atStart => exact ⟨0, Nat.zero_le _, by simp, by simp, by simpa [putL] using hown, hbel⟩
    case round =>
      obtain ⟨t, ht, rfl, rfl, ho, hb⟩ := hrel
      clear hown hbel
      have ex : ∃ q, q = n / 256 ^ t := ⟨_, rfl⟩
      obtain ⟨q, hq⟩ := ex
      rw [← hq]
      have Hq : Hid (q = n / 256 ^ t) := hq
      have hqm : q ≤ 18446744073709551615 := by rw [hq]; exact Nat.le_trans (Nat.div_le_self _ _) (by omega)
      clear hq
      by_cases hc : t < m ∧ 0 < q
      · obtain ⟨h3, h4⟩ := hc
        have i1 : (m : Int) - 1 - t = ((m - 1 - t : Nat) : Int) := by omega
        rw [i1]
        have hlen : (List.replicate (m - t) (0 : UInt8) ++ putL n t).length = m := by rw [List.length_append, putL_length, List.length_replicate]; omega
        obtain ⟨v0, hcell⟩ := ho.cell hlen (m - 1 - t) (by omega)
        have hfr := ho.free hlen (m - 1 - t)
        have ho2 := ho.set hlen (m - 1 - t) (UInt8.ofNat q)
        have hb2 := hb.setCell (p := ⟨g, m - 1 - t, none⟩) hg (.int .u8 ((UInt8.ofNat q).toNat : Int))
        rw [put_more h3 Hq.out] at ho2
        have hu : (((UInt8.ofNat q).toNat : Nat) : Int) = (q : Int) % 256 := by rw [UInt8.toNat_ofNat']; omega
        rw [hu] at ho2 hb2
        have HO : Hid (Own (wr.setCell ⟨g, m - 1 - t, none⟩ (.int .u8 ((q : Int) % 256))) w.heap.size (.slice (some ⟨g, 0, none⟩) m m) (List.replicate (m - (t + 1)) 0 ++ putL n (t + 1))) := ho2
        have HB : Hid (Below w.heap.size w (wr.setCell ⟨g, m - 1 - t, none⟩ (.int .u8 ((q : Int) % 256)))) := hb2
        have h5 : (0 : Int) < q := by omega
        have h6 : (0 : Int) ≤ ((m - 1 - t : Nat) : Int) := by omega
        have h7 : ((m - 1 - t : Nat) : Int) < m := by omega
        clear ho2 hb2 hu hlen ho hb
        go_wp2
        go_roundw
        case rel => exact ⟨t + 1, by omega, by rw [show ((m - 1 - t : Nat) : Int) - 1 = (m : Int) - 1 - ((t + 1 : Nat) : Int) from by omega], by rw [put_div Hq], HO.out, HB.out⟩
        case measure => simp [intOf]
      · by_cases h3 : t < m
        · have h4 : q = 0 := by omega
          subst h4
          have h6 : (0 : Int) ≤ (m : Int) - 1 - t := by omega
          go_wp2
          go_ret
          exact Gives.mk (put_start (put_done ht Hq) ho) hb
        · go_wp2
          go_ret
          exact Gives.mk (put_start (put_full ht h3) ho) hb
end Go.Proofs.YtlenmkhmkommcaaGreat

/-
  Slices of one, two and three rows of bytes, made as one; a text's bytes. No condition; no statement of the seat is proved here.
-/
namespace Go.Proofs.YtlenmkhmkommcaaGreat
open Go.RowKit

theorem Bss.two {w : World} {a1 a2 : Option Addr} {n1 c1 n2 c2 : Nat} {l1 l2 : List UInt8} (h1 : Bs w a1 n1 c1 l1) (h2 : Bs w a2 n2 c2 l2) :
    Bss (w.alloc (.cells #[.slice a1 n1 c1, .slice a2 n2 c2] 26)) (some ⟨w.heap.size, 0, none⟩) 2 2 [l1, l2] := by
  refine ⟨rfl, Nat.le_refl _, by unfold maxLen; omega, fun i hi => ?_⟩
  match i, hi with
  | 0, _ => exact ⟨w.heap.size, 0, a1, n1, c1, rfl, by rw [cell_new]; rfl, h1.below (below_alloc _ _) (Nat.le_refl _)⟩
  | 1, _ => exact ⟨w.heap.size, 0, a2, n2, c2, rfl, by rw [cell_new]; rfl, h2.below (below_alloc _ _) (Nat.le_refl _)⟩
theorem Bss.one1 {w : World} {a1 : Option Addr} {n1 c1 : Nat} {l1 : List UInt8} (h1 : Bs w a1 n1 c1 l1) :
    Bss (w.alloc (.cells #[.slice a1 n1 c1] 26)) (some ⟨w.heap.size, 0, none⟩) 1 1 [l1] := by
  refine ⟨rfl, Nat.le_refl _, by unfold maxLen; omega, fun i hi => ?_⟩
  match i, hi with
  | 0, _ => exact ⟨w.heap.size, 0, a1, n1, c1, rfl, by rw [cell_new]; rfl, h1.below (below_alloc _ _) (Nat.le_refl _)⟩
theorem Bss.three {w : World} {a1 a2 a3 : Option Addr} {n1 c1 n2 c2 n3 c3 : Nat} {l1 l2 l3 : List UInt8} (h1 : Bs w a1 n1 c1 l1) (h2 : Bs w a2 n2 c2 l2) (h3 : Bs w a3 n3 c3 l3) :
    Bss (w.alloc (.cells #[.slice a1 n1 c1, .slice a2 n2 c2, .slice a3 n3 c3] 26)) (some ⟨w.heap.size, 0, none⟩) 3 3 [l1, l2, l3] := by
  refine ⟨rfl, Nat.le_refl _, by unfold maxLen; omega, fun i hi => ?_⟩
  match i, hi with
  | 0, _ => exact ⟨w.heap.size, 0, a1, n1, c1, rfl, by rw [cell_new]; rfl, h1.below (below_alloc _ _) (Nat.le_refl _)⟩
  | 1, _ => exact ⟨w.heap.size, 0, a2, n2, c2, rfl, by rw [cell_new]; rfl, h2.below (below_alloc _ _) (Nat.le_refl _)⟩
  | 2, _ => exact ⟨w.heap.size, 0, a3, n3, c3, rfl, by rw [cell_new]; rfl, h3.below (below_alloc _ _) (Nat.le_refl _)⟩

end Go.Proofs.YtlenmkhmkommcaaGreat

/-
  Contracts of layer 9's program: whether there is such a block, cut, fill, what is safe. Conditions: bytes of at most 1000, lists of at most a million.
-/
namespace Go.Proofs.YtlenmkhmkommcaaGreat
open Go.RowKit

set_option maxRecDepth 100000 in
theorem oHas (w : World) {d r : Nat} {D : DskS} {M : Mm} (hb : Blk w d (hc r D M) 91) (at_ : Int) : Calls Tryz.prog 51 #[.pointer (some ⟨d, 0, none⟩), .int .i64 at_] w fun e w' => e = .returned (.bool (decide (0 ≤ at_ ∧ at_ < D.n))) ∧ w' = w := by
  obtain ⟨P, hP⟩ : ∃ P : Bool, P = decide (0 ≤ at_ ∧ at_ < D.n) := ⟨_, rfl⟩
  rw [← hP]
  have hl := hb.lt
  have c1 : w.cell? ⟨d, 1, none⟩ = some (.int .i64 D.n) := hb.cell 1
  clear hb
  by_cases h0 : 0 ≤ at_
  · by_cases h1 : at_ < D.n
    · have HP : Hid (P = true) := by rw [hP]; exact decide_eq_true ⟨h0, h1⟩
      clear hP
      go_enter Tryz.func51, Tryz.ntmps51
      go_wp2_with fail
      go_ret
      exact ⟨by rw [HP.out]; rfl, rfl⟩
    · have HP : Hid (P = false) := by rw [hP]; exact decide_eq_false fun h => h1 h.2
      clear hP
      go_enter Tryz.func51, Tryz.ntmps51
      go_wp2_with fail
      go_ret
      exact ⟨by rw [HP.out]; rfl, rfl⟩
  · have HP : Hid (P = false) := by rw [hP]; exact decide_eq_false fun h => h0 h.1
    clear hP
    go_enter Tryz.func51, Tryz.ntmps51
    go_wp2_with fail
    go_ret
    exact ⟨by rw [HP.out]; rfl, rfl⟩
set_option maxRecDepth 100000 in
theorem oCut (w : World) {p : Option Addr} {m c : Nat} {b : List UInt8} (h : Bs w p m c b) : Calls Tryz.prog 113 #[.slice p m c] w fun e w' => ∃ k, e = .returned (.slice p k c) ∧ w' = w ∧ Bs w p k c (b.take 512) ∧ k ≤ 512 ∧ k ≤ m ∧ (k = 512 ∨ k = m) := by
  have hmx := h.max
  have hbl := h.len
  by_cases hm : m ≤ 512
  · obtain ⟨hcut, hB⟩ := h.cutHigh m (Nat.le_refl _)
    have HB : Hid (Bs w p m c (b.take 512)) := by
      have := hB w h
      rw [List.take_of_length_le (by omega)] at this
      rw [List.take_of_length_le (by omega)]
      exact this
    have i0 : ¬ (512 : Int) < (m : Int) := by omega
    clear hB h hbl
    go_enter Tryz.func113, Tryz.ntmps113
    go_wp2_with fail
    go_ret
    exact ⟨m, rfl, rfl, HB.out, hm, Nat.le_refl _, Or.inr rfl⟩
  · obtain ⟨hcut, hB⟩ := h.cutHigh 512 (by omega)
    have HB : Hid (Bs w p 512 c (b.take 512)) := hB w h
    have hcut' : ∀ w, Sem.run Tryz.prog (Instr.slice 26 (.slice p m c) none (some (.int .i64 512)) none) w = .ok (.slice p 512 c) w := hcut
    have i0 : (512 : Int) < (m : Int) := by omega
    clear hB h hbl hcut
    go_enter Tryz.func113, Tryz.ntmps113
    go_wp2_with fail
    go_ret
    exact ⟨512, rfl, rfl, HB.out, Nat.le_refl _, by omega, Or.inl rfl⟩
theorem putL_0 : ∀ s, putL 0 s = List.replicate s 0
  | 0 => rfl
  | s + 1 => by
    rw [putL, Nat.zero_div, putL_0 s, List.replicate_succ']
    rfl
theorem fit_parts {b : List UInt8} {m : Nat} (h : b.length = m) : b.take 512 ++ putL (0 : Int).toNat ((512 : Int) - (m : Int)).toNat = fitB b := by
  rw [show ((512 : Int) - (m : Int)).toNat = 512 - m from by omega, show (0 : Int).toNat = 0 from rfl, putL_0]
  unfold fitB z512
  rw [List.take_append, List.take_replicate, h]
  congr 2
  omega
theorem fit_same {b : List UInt8} (h : b.length = 512) : fitB b = b := by
  unfold fitB
  rw [List.take_append_of_le_length (by omega), List.take_of_length_le (by omega)]
theorem fit_cut (b : List UInt8) : fitB (b.take 512) = fitB b := by
  unfold fitB z512
  rw [List.take_append, List.take_append, List.take_take, Nat.min_self, List.length_take]
  congr 1
  rw [List.take_replicate, List.take_replicate]
  congr 1
  omega
set_option maxRecDepth 100000 in
theorem oFill (w : World) {p : Option Addr} {m c : Nat} {b : List UInt8} (h : Bs w p m c b) (hm : m ≤ 100000) : Calls Tryz.prog 89 #[.slice p m c] w (Gives w (fitB b)) := by
  have CC := (oCut w h).mono (R' := fun e w' => ∃ k, e = .returned (.slice p k c) ∧ w' = w ∧ Hid (Bs w p k c (b.take 512))) (by rintro e w' ⟨k, h1, h2, h3, _⟩; exact ⟨k, h1, h2, h3⟩)
  have HF : Hid (b.take 512 ++ putL (0 : Int).toNat ((512 : Int) - (m : Int)).toNat = fitB b) := fit_parts h.len
  have HL : Hid ((b.take 512).length + (putL (0 : Int).toNat ((512 : Int) - (m : Int)).toNat).length ≤ 2000) := by
    have := List.length_take_le 512 b
    rw [putL_length]
    show _ ≤ _
    omega
  clear h
  obtain ⟨L1, hL1⟩ : ∃ L1, L1 = b.take 512 := ⟨_, rfl⟩
  obtain ⟨L2, hL2⟩ : ∃ L2, L2 = putL (0 : Int).toNat ((512 : Int) - (m : Int)).toNat := ⟨_, rfl⟩
  obtain ⟨L3, hL3⟩ : ∃ L3, L3 = fitB b := ⟨_, rfl⟩
  have CP := oPut 0 ((512 : Int) - (m : Int)) w (by omega) (by omega) (by omega) (by omega)
  rw [← hL2] at HF HL CP
  rw [← hL1] at HF HL CC
  rw [← hL3] at HF ⊢
  clear hL1 hL2 hL3
  go_enter Tryz.func89, Tryz.ntmps89
  go_wp2_with fail
  refine CC.mono ?_
  rintro e w' ⟨k, rfl, rfl, HB⟩
  go_wp2_with fail
  refine CP.mono ?_
  rintro e w1 ⟨a2, m2, c2, rfl, o2, hb2⟩
  have b1 := HB.out.below hb2 (Nat.le_refl _)
  have HS := Bss.two b1 o2.toBs
  have HK : Hid (Below w'.heap.size w' w1) := hb2
  clear hb2 o2 b1 CC CP HB
  go_wp2_with fail
  refine (oJoin _ HS (by have := HL.out; simp [tot]; omega)).mono ?_
  rintro e w2 ⟨a3, m3, c3, rfl, o3, hb3⟩
  rw [show [L1, L2].flatten = L1 ++ L2 from by simp, HF.out] at o3
  go_wp2_with fail
  go_ret
  have kk := HK.out.trans ((below_alloc w1 (.cells #[.slice p k c, .slice a2 m2 c2] 26)).mono HK.out.size)
  exact ⟨a3, m3, c3, rfl, o3.mono kk.size, kk.trans (hb3.mono kk.size)⟩

theorem at_look (T : TypeId) {x y : Operand} {ops : Array Oper} {rest : List Oper} {a : Act} {w : World} {Q : Exit → Act → World → Prop} {dst : Option Tmp} {tp : TypeId} {pos : String} {aft : Array Edge}
    (h : wpList Tryz.prog ops Q ({ dst := dst, op := .lookup T x y false, type := tp, pos := pos, after := aft, guard := none } :: rest) a w) : wpList Tryz.prog ops Q ({ dst := dst, op := .lookup T x y false, type := tp, pos := pos, after := aft, guard := none } :: rest) a w := h
theorem zeroDP (w : World) : (zeroValue 147).run Tryz.prog w = .ok nilV w := by kernel_rfl
theorem zeroQ (w : World) : (zeroValue 24).run Tryz.prog w = .ok nilV w := by kernel_rfl
theorem underP : Tryz.prog.underlying 88 = some (.map 3 147) := by kernel_rfl
theorem underQ : Tryz.prog.underlying 89 = some (.map 3 24) := by kernel_rfl
theorem under3 : Tryz.prog.underlying 3 = some (.int .i64) := by kernel_rfl
/-- An element of a slice of bytes. -/
theorem OwS.bytesAt {A : Nat → Prop} {e : TypeId} {w : World} {base : Nat} {a : Option Addr} {n c : Nat} {l : List (List UInt8)} (h : OwS (elY A) 1 e w base (.slice a n c) l) {i : Nat} {x : List UInt8} (hx : l[i]? = some x) : ∃ b o p m q, a = some ⟨b, o, none⟩ ∧ b < w.heap.size ∧ w.cell? ⟨b, o + i, none⟩ = some (.slice p m q) ∧ B5 A w p m q x := by
  obtain ⟨b, o, vs, ha, hlt, hr, hl, p, m, q, rfl, hb⟩ := (h.sl3 (A := fun _ => True) (fun _ _ _ => trivial)).at hx
  refine ⟨b, o, p, m, q, ha, hlt, ?_, hb⟩
  have := hr 0 _ rfl
  rwa [Nat.mul_one, Nat.add_zero] at this
set_option maxRecDepth 100000 in
theorem oSafe (w : World) {U : Nat → Prop} {d r : Nat} {D : DskS} {M : Mm} (h : Dm U w d r D M) (hz : D.safe.length ≤ 1000000) (at_ : Int) (n : Nat) (hn : n ≤ 9223372036854775807) : Calls Tryz.prog 68 #[.pointer (some ⟨d, 0, none⟩), .int .i64 at_, .int .i64 (n : Int)] w fun e w' => ∃ p m c, e = .returned (.slice p m c) ∧ B5 (fun j => U j ∨ w.heap.size ≤ j) w' p m c (D.ago at_ n) ∧ Below w.heap.size w w' := by
  have hrow := h.past.row at_
  have hmp := h.past.map
  have hl := h.blk.lt
  have c3 : w.cell? ⟨d, 3, none⟩ = some (.map (some M.mp)) := h.blk.cell 3
  have hago := ago_past D at_ n
  have hpl := pastL_len D.safe at_
  obtain ⟨B, hB⟩ : ∃ B, B = D.ago at_ n := ⟨_, rfl⟩
  rw [← hB] at hago ⊢
  clear hB
  obtain ⟨L, hL⟩ : ∃ L, L = pastL D.safe at_ := ⟨_, rfl⟩
  rw [← hL] at hago hrow hpl
  clear hL
  obtain ⟨a, ln, c, hv, hln⟩ := hrow.shape
  rw [hv] at hrow
  have hbt : ln ≤ 1000000 := by omega
  by_cases hlt : n < ln
  · obtain ⟨i, hi⟩ : ∃ i, i = ln - 1 - n := ⟨_, rfl⟩
    have e1 : (ln : Int) - 1 - (n : Int) = (i : Int) := by omega
    have hil : i < ln := by omega
    obtain ⟨x, hx⟩ : ∃ x, L[i]? = some x := ⟨_, List.getElem?_eq_getElem (by omega)⟩
    obtain ⟨b, o, p, m, q, rfl, hlb, hcell, h5⟩ := hrow.bytesAt hx
    have hBx : Hid (B = x) := by
      rw [hago, List.getD_eq_getElem?_getD, List.getElem?_reverse (by omega), show L.length - 1 - n = i from by omega, hx]
      rfl
    have H5 : Hid (B5 U w p m q x) := h5
    have i0 : ¬ (ln : Int) ≤ (n : Int) := by omega
    have HM : Hid (Mp w M.mp M.f) := hmp
    have HV : Hid ((M.f at_).getD nilV = .slice (some ⟨b, o, none⟩) ln c) := hv
    clear h hrow hmp hv hago hpl h5 hx hln hz hi
    go_enter Tryz.func68, Tryz.ntmps68
    go_wp2_with ((with_reducible refine at_look 88 ?_); (refine wpList_look w rfl (.tmp 11) (.tmp 12) 88 3 147 rfl underP under3 nilV (zeroDP w) M.mp M.f rfl at_ rfl HM.out ?_); rw [HV.out])
    go_ret
    exact ⟨p, m, q, rfl, by rw [hBx.out]; exact H5.out.mono fun j _ hj => Or.inl hj, Below.refl _ _⟩
  · have hBx : Hid (B = z512) := by
      rw [hago, List.getD_eq_getElem?_getD, List.getElem?_eq_none (by simp; omega)]
      rfl
    have i0 : (ln : Int) ≤ (n : Int) := by omega
    have HM : Hid (Mp w M.mp M.f) := hmp
    have HV : Hid ((M.f at_).getD nilV = .slice a ln c) := hv
    have HF := oFill w (Bs.nil w) (by omega)
    clear h hrow hmp hv hago hpl hln hz
    go_enter Tryz.func68, Tryz.ntmps68
    go_wp2_with ((with_reducible refine at_look 88 ?_); (refine wpList_look w rfl (.tmp 11) (.tmp 12) 88 3 147 rfl underP under3 nilV (zeroDP w) M.mp M.f rfl at_ rfl HM.out ?_); rw [HV.out])
    refine HF.mono ?_
    rintro e w2 ⟨a3, m3, c3, rfl, o3, hb3⟩
    go_wp2_with fail
    go_ret
    refine ⟨a3, m3, c3, rfl, ?_, hb3⟩
    rw [hBx.out, show z512 = fitB [] from by unfold fitB; rw [List.nil_append, List.take_of_length_le (by rw [z512_length]; omega)]]
    exact o3.b5 fun j hj _ => Or.inr hj
end Go.Proofs.YtlenmkhmkommcaaGreat

/-
  Append with the new slice's place told. No condition; no statement of the seat is proved here.
-/
namespace Go.Proofs.YtlenmkhmkommcaaGreat
open Go.RowKit
set_option linter.unusedVariables false

theorem wp_app_at {o : Oper} {a : Act} {K : Act → World → Prop} {Q : Exit → Act → World → Prop} (w : World) (s x : Operand) (t : TypeId)
    (ho : o.op = .call { callee := .builtin .append, args := #[s, x], argTypes := #[t, t] })
    (base : Nat) (e : TypeId) (i : TypeInfo) (z : Value) (size bytes : Nat) (ht : Tryz.prog.underlying t = some (.slice e)) (hi : Tryz.prog.info? e = some i) (hz : i.zero = some z)
    (hsize : i.size = size) (hby : i.bytes = bytes) (hzs : z.cells.size = size) (hsz : 0 < size)
    (v : Value) (n : Nat) (xs : List Value) (hs : a.eval s = v) (hown : w.ownsRow base e size v n xs)
    (ad : Addr) (m c : Nat) (news : List Value) (hx : a.eval x = .slice (some ad) m c) (hl : news.length = m * size) (hnews : ∀ j u, news[j]? = some u → w.cell? (ad.add j) = some u) (h1 : ∀ u ∈ news, u.oneCell' = true)
    (h63 : n + m ≤ maxLen) (hbytes : (n + m) * bytes ≤ 140737488355328) (hbase : base ≤ w.heap.size)
    (h : ∀ v' w', w'.ownsRow base e size v' (n + m) (xs ++ news) → w.grownBy w' v.ownBlock → (v'.ownBlock = v.ownBlock ∨ v'.ownBlock = some w.heap.size) → K (a.put o.dst v') w') : o.wp Tryz.prog a w K Q := by
  obtain ⟨v', w', hr, h2, h3, h4, h5⟩ := run_append_own_at (P := Tryz.prog) w base t o.type e i z size bytes ht hi hz hsize hby hzs hsz v n xs hown ad m c news hl hnews h1 h63 hbytes hbase
  unfold Oper.wp execOp
  simp only [ho, resolve, invoke, builtin, Sem.run_bind, Sem.run_pure, Result.andThen_ok, List.map_toArray, List.map_cons, List.map_nil, hs, hx, hr]
  exact h v' w' h2 h3 h5
/-- append of one struct out of a literal; where the new slice lies. -/
theorem wpList_app1At {α : Type} (el : World → α → List Value → Prop) (sz by_ : Nat) (t e : TypeId) (z : Value) (ht : Tryz.prog.underlying t = some (.slice e)) (hi : (Tryz.prog.info? e).map (fun i => (i.zero, i.size, i.bytes)) = some (some z, sz, by_)) (hzs : z.cells.size = sz) (hsz : 0 < sz) (hby : by_ ≤ 1000)
    {ops : Array Oper} {rest : List Oper} {o : Oper} {a : Act} {Q : Exit → Act → World → Prop} (w : World) (hgd : o.guard = none) (s x : Operand)
    (ho : o.op = Op.call { callee := Callee.builtin Builtin.append, args := #[s, x], argTypes := #[t, t] }) (base : Nat) (v : Value) (l : List α) (hs : a.eval s = v) (hown : OwS el sz e w base v l)
    (b c : Nat) (y : α) (vs : List Value) (hx : a.eval x = .slice (some ⟨b, 0, none⟩) 1 c) (hrg : w.rangeAt b 0 vs) (hrow : Row el sz w y vs) (hz : l.length + 1 ≤ 1000000) (hbase : base ≤ w.heap.size)
    (hel : ∀ w' x vs, w.grownBy w' v.ownBlock → el w x vs → el w' x vs)
    (h : ∀ v' w', OwS el sz e w' base v' (l ++ [y]) → w.grownBy w' v.ownBlock → (v'.ownBlock = v.ownBlock ∨ v'.ownBlock = some w.heap.size) → wpList Tryz.prog ops Q rest (a.put o.dst v') w') : wpList Tryz.prog ops Q (o :: rest) a w := by
  obtain ⟨i0, hi, hz0, hz1, hz2⟩ := info_parts hi
  obtain ⟨rows, hr, howr⟩ := hown
  obtain ⟨h1, h2, h3⟩ := hrow
  refine wpList_plain hgd fun K hK => ?_
  refine wp_app_at w s x t ho base e i0 z sz by_ ht hi hz0 hz1 hz2 hzs hsz v _ _ hs howr ⟨b, 0, none⟩ 1 c vs hx (by rw [h1, Nat.one_mul]) (fun j u hj => by rw [add_none]; exact hrg j u hj) h2 (by unfold maxLen; omega) (by have := Nat.mul_le_mul hz hby; omega) hbase ?_
  intro v' w' ho' hg hp
  refine hK _ _ (h v' w' ⟨rows ++ [vs], ?_, ?_⟩ hg hp)
  · exact (hr.mono fun y vs ⟨a1, a2, a3⟩ => ⟨a1, a2, hel w' y vs hg a3⟩).append ⟨⟨h1, h2, hel w' y vs hg h3⟩, trivial⟩
  · rw [List.flatten_append, List.length_append]
    simp only [List.flatten_cons, List.flatten_nil, List.append_nil, List.length_cons, List.length_nil]
    exact ho'

end Go.Proofs.YtlenmkhmkommcaaGreat

/-
  Append with the new slice's place told; what a change makes of the disk in memory; the contract of layer 9's program's change. Condition: lists of at most a million.
-/
namespace Go.Proofs.YtlenmkhmkommcaaGreat
open Go.RowKit
set_option linter.unusedVariables false

/-- append of one struct out of a literal, as an operation of a region that draws its order; where the new slice lies. -/
theorem opAppAt {α : Type} (el : World → α → List Value → Prop) (sz by_ : Nat) (t e : TypeId) (z : Value) (ht : Tryz.prog.underlying t = some (.slice e)) (hi : (Tryz.prog.info? e).map (fun i => (i.zero, i.size, i.bytes)) = some (some z, sz, by_)) (hzs : z.cells.size = sz) (hsz : 0 < sz) (hby : by_ ≤ 1000)
    {ops : Array Oper} {i : Nat} {oi : Oper} {a : Act} {Q : Exit → Act → World → Prop} {K : Act → World → Prop} (w : World) (hii : ops[i]? = some oi) (hgd : oi.guard = none) (d : Option Tmp) (hd : oi.dst = d) (s x : Operand)
    (ho : oi.op = Op.call { callee := Callee.builtin Builtin.append, args := #[s, x], argTypes := #[t, t] }) (base : Nat) (v : Value) (l : List α) (hs : a.eval s = v) (hown : OwS el sz e w base v l)
    (b c : Nat) (y : α) (vs : List Value) (hx : a.eval x = .slice (some ⟨b, 0, none⟩) 1 c) (hrg : w.rangeAt b 0 vs) (hrow : Row el sz w y vs) (hz : l.length + 1 ≤ 1000000) (hbase : base ≤ w.heap.size)
    (hel : ∀ w' x vs, w.grownBy w' v.ownBlock → el w x vs → el w' x vs)
    (h : ∀ v' w', OwS el sz e w' base v' (l ++ [y]) → w.grownBy w' v.ownBlock → (v'.ownBlock = v.ownBlock ∨ v'.ownBlock = some w.heap.size) → K (a.put d v') w') : wpOp Tryz.prog ops Q i K a w := by
  subst hd
  obtain ⟨i0, hi, hz0, hz1, hz2⟩ := info_parts hi
  obtain ⟨rows, hr, howr⟩ := hown
  obtain ⟨h1, h2, h3⟩ := hrow
  unfold wpOp
  simp only [hii]
  rw [if_pos (by simp [Region.wanted, hgd])]
  left
  refine wp_app_at w s x t ho base e i0 z sz by_ ht hi hz0 hz1 hz2 hzs hsz v _ _ hs howr ⟨b, 0, none⟩ 1 c vs hx (by rw [h1, Nat.one_mul]) (fun j u hj => by rw [add_none]; exact hrg j u hj) h2 (by unfold maxLen; omega) (by have := Nat.mul_le_mul hz hby; omega) hbase ?_
  intro v' w' ho' hg hp
  refine h v' w' ⟨rows ++ [vs], ?_, ?_⟩ hg hp
  · exact (hr.mono fun y vs ⟨a1, a2, a3⟩ => ⟨a1, a2, hel w' y vs hg a3⟩).append ⟨⟨h1, h2, hel w' y vs hg h3⟩, trivial⟩
  · rw [List.flatten_append, List.length_append]
    simp only [List.flatten_cons, List.flatten_nil, List.append_nil, List.length_cons, List.length_nil]
    exact ho'
theorem infoY : (Tryz.prog.info? 26).map (fun i => (i.zero, i.size, i.bytes)) = some (some (.slice none 0 0), 1, 24) := by kernel_rfl
theorem infoT3 : (Tryz.prog.info? 114).map (fun i => (i.zero, i.size, i.bytes)) = some (some (.agg #[.int .i64 0, .int .i64 0, .slice none 0 0]), 3, 40) := by kernel_rfl
/-- A change, in memory. -/
theorem Dm.changed {U : Nat → Prop} {w w' : World} {d r : Nat} {D : DskS} {M : Mm} (h : Dm U w d r D M) {at_ : Int} {b : List UInt8} {v : Value} (k : Kp (fun j => ((M.f at_).getD nilV).ownBlock = some j ∨ j = M.mp) w w') (hm : Mp w' M.mp (updI M.f at_ v))
    (ho : OwS (elY fun j => U j ∨ (w.heap.size ≤ j ∧ j < w'.heap.size)) 1 26 w' 0 v (pastL D.safe at_ ++ [b])) (hv : ∀ j, v.ownBlock = some j → ((M.f at_).getD nilV).ownBlock = some j ∨ w.heap.size ≤ j) (hl : b.length = 512) :
    ∃ U' f', Dm U' w' d r { D with safe := D.safe ++ [(at_, b)] } { M with f := f' } ∧ Next w U U' ∧ Kp (Wr U w) w w' := by
  have hT5 : ∀ j, (((M.f at_).getD nilV).ownBlock = some j ∨ j = M.mp) → U j ∧ ∀ e, e ≠ 26 → ¬ Ty w j e := by
    rintro j (hj | rfl)
    · exact ⟨h.past.at_ _ _ hj, fun e he ht => he (ht.one ((h.past.row at_).ty j hj))⟩
    · exact ⟨h.past.inU, fun e _ => h.past.map.noTy e⟩
  have s : Sp U (fun j => U j ∨ (w.heap.size ≤ j ∧ j < w'.heap.size)) (fun j => ((M.f at_).getD nilV).ownBlock = some j ∨ j = M.mp) w w' := ⟨k, fun j ht _ => (hT5 j ht).2 5 (by decide), fun j hj => Or.inl hj⟩
  have hblk : ∀ j, Ty w j 91 → ¬ (((M.f at_).getD nilV).ownBlock = some j ∨ j = M.mp) := fun j ht hT => (hT5 j hT).2 _ (by decide) ht
  refine ⟨fun j => U j ∨ (w.heap.size ≤ j ∧ j < w'.heap.size), updI M.f at_ v, ⟨?_, Or.inl h.inD, Or.inl h.inR, ?_, ?_, ⟨hm, Or.inl h.past.inU, ?_, ?_, ?_⟩, ?_, ?_, h.two, ?_, h.maps, ?_, h.len2, h.len3⟩, ?_, ?_⟩
  · rintro j (hj | hj)
    · exact Nat.lt_of_lt_of_le (h.lt j hj) k.size
    · exact hj.2
  · exact k.blk h.blk (hblk d h.blk.ty)
  · exact h.pw.same (k.block r h.pw.lt fun hT => (hT5 r hT).2 _ (by decide) h.pw.ty)
  · intro k'
    by_cases hk : k' = at_
    · subst hk
      show OwS _ _ _ _ _ (((updI M.f k' v) k').getD nilV) (pastL (D.safe ++ [(k', b)]) k')
      rw [pastL_same, show (updI M.f k' v) k' = some v from if_pos rfl]
      exact ho
    · show OwS _ _ _ _ _ (((updI M.f at_ v) k').getD nilV) (pastL (D.safe ++ [(at_, b)]) k')
      rw [pastL_other _ hk, show (updI M.f at_ v) k' = M.f k' from if_neg hk]
      refine (h.past.row k').turn s.elY fun j hj => k.block j ((h.past.row k').lt j hj).2 fun hT => ?_
      rcases hT with hT | rfl
      · exact hk (h.past.two _ _ j hj hT)
      · exact h.past.map.noTy _ ((h.past.row k').ty _ hj)
  · intro k' j hj
    dsimp only at hj
    by_cases hk : k' = at_
    · subst hk
      rw [show (updI M.f k' v) k' = some v from if_pos rfl] at hj
      rcases hv j hj with hj' | hj'
      · exact Or.inl (h.past.at_ _ _ hj')
      · exact Or.inr ⟨hj', (ho.lt j hj).2⟩
    · rw [show (updI M.f at_ v) k' = M.f k' from if_neg hk] at hj
      exact Or.inl (h.past.at_ _ _ hj)
  · have key : ∀ k' j, k' ≠ at_ → v.ownBlock = some j → ((M.f k').getD nilV).ownBlock = some j → False := fun k' j hk h1 h2 => by
      rcases hv j h1 with h3 | h3
      · exact hk (h.past.two _ _ j h2 h3)
      · have := ((h.past.row k').lt j h2).2
        omega
    intro k1 k2 j h1 h2
    dsimp only at h1 h2
    by_cases e1 : k1 = at_
    · by_cases e2 : k2 = at_
      · rw [e1, e2]
      · subst e1
        rw [show (updI M.f k1 v) k1 = some v from if_pos rfl] at h1
        rw [show (updI M.f k1 v) k2 = M.f k2 from if_neg e2] at h2
        exact (key k2 j e2 h1 h2).elim
    · by_cases e2 : k2 = at_
      · subst e2
        rw [show (updI M.f k2 v) k2 = some v from if_pos rfl] at h2
        rw [show (updI M.f k2 v) k1 = M.f k1 from if_neg e1] at h1
        exact (key k1 j e1 h2 h1).elim
      · rw [show (updI M.f at_ v) k1 = M.f k1 from if_neg e1] at h1
        rw [show (updI M.f at_ v) k2 = M.f k2 from if_neg e2] at h2
        exact h.past.two k1 k2 j h1 h2
  · exact h.wait.turn s fun j hT _ hj => (hT5 j hT).2 _ (by decide) (h.wait.row.ty j hj)
  · exact h.seen.turn s fun j hT _ hj => (hT5 j hT).2 _ (by decide) (h.seen.row.ty j hj)
  · refine h.plot.turn s fun j hT _ => ⟨fun hm' => ?_, (hT5 j hT).2 _ (by decide)⟩
    rcases hT with hT | rfl
    · exact (h.plot.map j hm').1.noTy _ ((h.past.row at_).ty j hT)
    · exact h.maps _ hm' rfl
  · intro c hc
    rcases List.mem_append.1 hc with hc | hc
    · exact h.len1 c hc
    · rw [List.mem_singleton.1 hc]
      exact hl
  · rintro j (hj | hj)
    · exact Or.inl hj
    · exact Or.inr hj.1
  · exact k.mono fun j _ hT => ⟨(hT5 j hT).1, (hT5 j hT).2 5 (by decide)⟩
theorem ans_lookV {ops : Array Oper} {S : World → Prop} {oi : Oper} {a : Act} (x y : Operand) (T K E : TypeId) (ho : oi.op = Op.lookup T x y false) (hw : Region.wanted oi (yielded ops a.tmps) = true) (hm : Tryz.prog.underlying T = some (.map K E)) (hd : Tryz.prog.underlying K = some (.int .i64)) (z : Value) (hz : ∀ w, (zeroValue E).run Tryz.prog w = .ok z w)
    (m : Nat) (f : Int → Option Value) (hx : a.eval x = .map (some m)) (k : Int) (hy : a.eval y = .int .i64 k) (h : ∀ w, S w → Mp w m f) (v : Value) (hv : (f k).getD z = v) : Ans Tryz.prog ops S oi v a := by
  rw [← hv]
  exact ans_look x y T K E ho hw hm hd z hz m f hx k hy h
/-- A literal of one slice, the one that may come up. -/
theorem opBSY {ops : Array Oper} {Q : Exit → Act → World → Prop} {i : Nat} {oi : Oper} (d : Option Tmp) (hi : ops[i]? = some oi) (hd : oi.dst = d) (hg : oi.guard = none) (x : Operand) (ho : oi.op = .buildSlice 147 1 #[(0, x)]) {K : Act → World → Prop} {a : Act} {w : World} (a1 : Option Addr) (n1 c1 : Nat) (hx : a.eval x = .slice a1 n1 c1)
    (k : K (a.put d (.slice (some ⟨w.heap.size, 0, none⟩) 1 1)) (w.alloc (.cells #[.slice a1 n1 c1] 26))) : wpOp Tryz.prog ops Q i K a w := by
  subst hd
  have hK : Hid _ := k
  clear k
  unfold wpOp
  simp only [hi]
  rw [if_pos (by simp [Region.wanted, hg])]
  left
  unfold Oper.wp execOp
  simp only [ho, List.map_toArray, List.map_cons, List.map_nil, hx]
  go_simp
  exact hK.out

set_option maxRecDepth 100000 in
set_option maxHeartbeats 4000000 in
theorem oChange (w : World) {U : Nat → Prop} {d r : Nat} {D : DskS} {M : Mm} (h : Dm U w d r D M) (hz : D.safe.length + 1 ≤ 1000000) (at_ : Int) {p : Option Addr} {m q : Nat} {b : List UInt8} (hb : B5 U w p m q b) (hl : b.length = 512) :
    Calls Tryz.prog 49 #[.pointer (some ⟨d, 0, none⟩), .int .i64 at_, .slice p m q] w fun e w' => e = .returned (.tuple #[]) ∧ ∃ U' f', Dm U' w' d r { D with safe := D.safe ++ [(at_, b)] } { M with f := f' } ∧ Next w U U' ∧ Kp (Wr U w) w w' := by
  obtain ⟨a, n, c, hv, hln⟩ := (h.past.row at_).shape
  have hpl := pastL_len D.safe at_
  have KEY : Hid (∀ w' v, Kp (fun j => (Value.slice a n c).ownBlock = some j ∨ j = M.mp) w w' → Mp w' M.mp (updI M.f at_ v) → OwS (elY fun j => U j ∨ (w.heap.size ≤ j ∧ j < w'.heap.size)) 1 26 w' 0 v (pastL D.safe at_ ++ [b]) → (∀ j, v.ownBlock = some j → (Value.slice a n c).ownBlock = some j ∨ w.heap.size ≤ j) → ∃ U' f', Dm U' w' d r { D with safe := D.safe ++ [(at_, b)] } { M with f := f' } ∧ Next w U U' ∧ Kp (Wr U w) w w') := fun w' v k hm ho hp => by rw [← hv] at k hp; exact h.changed k hm ho hp hl
  have hrow := h.past.row at_
  rw [hv] at hrow
  have hmp := h.past.map
  have hmr : ∀ j, (Value.slice a n c).ownBlock = some j → j ≠ M.mp := fun j hj e => by subst e; exact hmp.noTy _ (hrow.ty _ hj)
  have hdr : ∀ j, (Value.slice a n c).ownBlock = some j → j ≠ d := fun j hj e => by subst e; exact absurd ((hrow.ty _ hj).one h.blk.ty) (by decide)
  have hr5 : ∀ j, (Value.slice a n c).ownBlock = some j → ¬ Ty w j 5 := fun j hj ht => absurd ((hrow.ty _ hj).one ht) (by decide)
  have hlz := hrow.lt
  have hlt := h.blk.lt
  have hbk := h.blk
  have F3 : ∀ u, Kp (fun j => (Value.slice a n c).ownBlock = some j) w u → u.cell? ⟨d, 3, none⟩ = some (.map (some M.mp)) := fun u k => (k.blk hbk fun e => hdr d e rfl).cell 3
  have FM : ∀ u, Kp (fun j => (Value.slice a n c).ownBlock = some j) w u → Mp u M.mp M.f := fun u k => hmp.same (k.block M.mp hmp.lt fun e => hmr _ e rfl)
  obtain ⟨P, hP⟩ : ∃ P : World → Prop, P = fun w' => ∃ U' f', Dm U' w' d r { D with safe := D.safe ++ [(at_, b)] } { M with f := f' } ∧ Next w U U' ∧ Kp (Wr U w) w w' := ⟨_, rfl⟩
  have KEYP : Hid (∀ w' v, Kp (fun j => (Value.slice a n c).ownBlock = some j ∨ j = M.mp) w w' → Mp w' M.mp (updI M.f at_ v) → OwS (elY fun j => U j ∨ (w.heap.size ≤ j ∧ j < w'.heap.size)) 1 26 w' 0 v (pastL D.safe at_ ++ [b]) → (∀ j, v.ownBlock = some j → (Value.slice a n c).ownBlock = some j ∨ w.heap.size ≤ j) → P w') := by rw [hP]; exact KEY.out
  show Calls _ _ _ _ fun e w' => e = .returned (.tuple #[]) ∧ (fun w' => ∃ U' f', Dm U' w' d r { D with safe := D.safe ++ [(at_, b)] } { M with f := f' } ∧ Next w U U' ∧ Kp (Wr U w) w w') w'
  rw [← hP]
  have hnz : (pastL D.safe at_).length + 1 ≤ 1000000 := by omega
  generalize pastL D.safe at_ = L at *
  clear hP KEY h hl hz hpl
  have HV : Hid ((M.f at_).getD nilV = .slice a n c) := hv
  clear hv
  go_enter Tryz.func49, Tryz.ntmps49
  go_wp2_with fail
  refine regionE 14 (S := Kp (fun j => (Value.slice a n c).ownBlock = some j) w) (by kernel_rfl) (Kp.of_below (Below.refl _ w).drew) ?_
  refine takeT 0 (some 6) (.pointer (some ⟨d, 0, none⟩)) rfl rfl (by kernel_rfl) (fun _ _ _ h => h) (ans_plain (by rfl) (fun w _ => rfl)) ?_
  simp only [Act.put, List.setIfInBounds_toArray, List.set_cons_zero, List.set_cons_succ]
  refine takeT 1 (some 7) (.pointer (some ⟨d, 0, none⟩)) rfl rfl (by kernel_rfl) (fun _ _ _ h => h) (ans_plain (by rfl) (fun w _ => by unfold execOp; go_simp)) ?_
  simp only [Act.put, List.setIfInBounds_toArray, List.set_cons_zero, List.set_cons_succ]
  refine takeT 2 (some 8) (.pointer (some ⟨d, 3, none⟩)) rfl rfl (by kernel_rfl) (fun _ _ _ h => h) (ans_plain (by rfl) (fun w _ => by unfold execOp; go_simp)) ?_
  simp only [Act.put, List.setIfInBounds_toArray, List.set_cons_zero, List.set_cons_succ]
  refine takeT 3 (some 9) (.map (some M.mp)) rfl rfl (by kernel_rfl) (fun _ _ _ h => h) (ans_plain (by rfl) (fun w h => by have hc := F3 w h; unfold execOp; go_simp)) ?_
  simp only [Act.put, List.setIfInBounds_toArray, List.set_cons_zero, List.set_cons_succ]
  refine takeT 4 (some 10) (.int .i64 at_) rfl rfl (by kernel_rfl) (fun _ _ _ h => h) (ans_plain (by rfl) (fun w _ => rfl)) ?_
  simp only [Act.put, List.setIfInBounds_toArray, List.set_cons_zero, List.set_cons_succ]
  refine takeT 5 (some 11) (.pointer (some ⟨d, 0, none⟩)) rfl rfl (by kernel_rfl) (fun _ _ _ h => h) (ans_plain (by rfl) (fun w _ => rfl)) ?_
  simp only [Act.put, List.setIfInBounds_toArray, List.set_cons_zero, List.set_cons_succ]
  refine takeT 6 (some 12) (.pointer (some ⟨d, 0, none⟩)) rfl rfl (by kernel_rfl) (fun _ _ _ h => h) (ans_plain (by rfl) (fun w _ => by unfold execOp; go_simp)) ?_
  simp only [Act.put, List.setIfInBounds_toArray, List.set_cons_zero, List.set_cons_succ]
  refine takeT 7 (some 13) (.pointer (some ⟨d, 3, none⟩)) rfl rfl (by kernel_rfl) (fun _ _ _ h => h) (ans_plain (by rfl) (fun w _ => by unfold execOp; go_simp)) ?_
  simp only [Act.put, List.setIfInBounds_toArray, List.set_cons_zero, List.set_cons_succ]
  refine takeT 8 (some 14) (.map (some M.mp)) rfl rfl (by kernel_rfl) (fun _ _ _ h => h) (ans_plain (by rfl) (fun w h => by have hc := F3 w h; unfold execOp; go_simp)) ?_
  simp only [Act.put, List.setIfInBounds_toArray, List.set_cons_zero, List.set_cons_succ]
  refine takeT 9 (some 15) (.int .i64 at_) rfl rfl (by kernel_rfl) (fun _ _ _ h => h) (ans_plain (by rfl) (fun w _ => rfl)) ?_
  simp only [Act.put, List.setIfInBounds_toArray, List.set_cons_zero, List.set_cons_succ]
  refine takeT 10 (some 16) (.slice a n c) rfl rfl (by kernel_rfl) (fun _ _ _ h => h) (ans_lookV (.tmp 14) (.tmp 15) 88 3 147 rfl (by rfl) underP under3 nilV zeroDP M.mp M.f rfl at_ rfl FM _ HV.out) ?_
  simp only [Act.put, List.setIfInBounds_toArray, List.set_cons_zero, List.set_cons_succ]
  refine takeT 11 (some 17) (.slice p m q) rfl rfl (by kernel_rfl) (fun _ _ _ h => h) (ans_plain (by rfl) (fun w _ => rfl)) ?_
  simp only [Act.put, List.setIfInBounds_toArray, List.set_cons_zero, List.set_cons_succ]
  refine oneE 12 (by kernel_rfl) (by kernel_rfl) fun u3 hg3 hs3 => ?_
  refine opBSY (some 18) rfl rfl rfl (.tmp 17) rfl p m q rfl ⟨hs3.alloc _, ?_⟩
  simp only [Act.put, List.setIfInBounds_toArray, List.set_cons_zero, List.set_cons_succ]
  refine oneE 13 (by kernel_rfl) (by kernel_rfl) fun u4 hg4 hs4 => ?_
  have kA : Below w.heap.size w (u3.alloc (.cells #[.slice p m q] 26)) := ((Below.refl _ w).drew.trans (Below.mono hg3 (Nat.le_refl _))).trans ((below_alloc u3 _).mono (Below.size hg3))
  have k4 : Below w.heap.size w u4 := kA.trans (Below.mono hg4 kA.size)
  have s4 : Sp U U (fun _ => False) w u4 := ⟨Kp.of_below k4, fun _ hf => hf.elim, fun _ hu => hu⟩
  have o4 : OwS (elY U) 1 26 u4 0 (.slice a n c) L := hrow.turn s4.elY fun j hj => k4.block j (hlz j hj).2
  have b3 := ((Blk.newAt u3 #[.slice p m q] 26 u3.heap.size rfl _ rfl).below hg4 (by simp)).whole
  have hb4 := s4.b5 hb
  refine opAppAt (elY U) 1 24 147 26 _ Tryz.underlying147 infoY rfl (by decide) (by decide) u4 rfl rfl (some 19) rfl (.tmp 16) (.tmp 18) rfl 0 (.slice a n c) L rfl o4 u3.heap.size 1 b [.slice p m q] rfl b3 ⟨rfl, by intro u hu; simp at hu; subst hu; rfl, p, m, q, rfl, hb4⟩ hnz (Nat.zero_le _) ?_ ?_
  · exact fun w' x vs hg hx => (show Sp U U (fun j => (Value.slice a n c).ownBlock = some j) u4 w' from ⟨⟨hg.os, hg.tape, hg.output, hg.size, fun j hj hn => hg.block j hj fun e => hn e.symm⟩, fun j hj _ ht => hr5 j hj (ht.same (k4.block j (hlz j hj).2).symm), fun _ hu => hu⟩).elY x vs hx
  intro v5 u5 o5 g5 hp5
  simp only [Act.put, List.setIfInBounds_toArray, List.set_cons_zero, List.set_cons_succ]
  have q5 : Kp (fun j => (Value.slice a n c).ownBlock = some j) u4 u5 := ⟨g5.os, g5.tape, g5.output, g5.size, fun j hj hn => g5.block j hj fun e => hn e.symm⟩
  have q5w : Kp (fun j => (Value.slice a n c).ownBlock = some j) w u5 := (Kp.of_below k4).trans q5
  refine ⟨q5w, ?_⟩
  refine goE (by kernel_rfl) (by kernel_rfl) (by kernel_rfl) fun u6 hg6 hs6 => ?_
  refine opMset 14 88 3 147 (.tmp 9) (.tmp 10) (.tmp 19) rfl rfl rfl rfl underP under3 M.mp M.f rfl at_ rfl v5 rfl (FM u6 hs6) fun u7 hm7 g7 => ?_
  refine endE (by kernel_rfl) fun u8 hg8 => ?_
  have m5 : M.mp < u5.heap.size := Nat.lt_of_lt_of_le hmp.lt q5w.size
  have k68 : Kp (fun j => j = M.mp) u5 u8 := ((Kp.of_below hg6).trans (Kp.of_grown g7)).trans (Kp.of_below hg8)
  have k8 : Kp (fun j => (Value.slice a n c).ownBlock = some j ∨ j = M.mp) w u8 := (q5w.mono fun j _ hj => Or.inl hj).trans (k68.mono fun j _ hj => Or.inr hj)
  have hv5 : ∀ j, v5.ownBlock = some j → j ≠ M.mp := fun j hj e => by subst e; exact ((FM u6 hs6).same (show u5.heap[M.mp]? = u6.heap[M.mp]? from (Below.block hg6 M.mp m5).symm)).noTy _ (o5.ty _ hj)
  have o8 : OwS (elY fun j => U j ∨ (w.heap.size ≤ j ∧ j < u8.heap.size)) 1 26 u8 0 v5 (L ++ [b]) := o5.turn (show Sp U (fun j => U j ∨ (w.heap.size ≤ j ∧ j < u8.heap.size)) (fun j => j = M.mp) u5 u8 from ⟨k68, fun j e _ ht => by subst e; exact ((FM u6 hs6).same (show u5.heap[M.mp]? = u6.heap[M.mp]? from (Below.block hg6 M.mp m5).symm)).noTy _ ht, fun _ hu => Or.inl hu⟩).elY fun j hj => k68.block j (o5.lt j hj).2 fun e => hv5 j hj e
  have fin := KEYP.out u8 v5 k8 (hm7.same (Below.block hg8 M.mp hm7.lt)) o8 (fun j hj => by
    rcases hp5 with e | e
    · exact Or.inl (by rw [← e]; exact hj)
    · rw [e] at hj
      have := Option.some.inj hj
      have := k4.size
      exact Or.inr (by omega))
  have HFIN : Hid (P u8) := fin
  clear fin o8 hv5 k8 k68 m5 hg8 hm7 g7 hg6 hs6 q5w q5 hp5 g5 o5 hb4 b3 o4 s4 k4 kA hg4 hs4 hg3 hs3 F3 FM hrow hmp KEYP hb hbk
  go_wp2_with fail
  go_end0
  exact ⟨rfl, HFIN.out⟩

end Go.Proofs.YtlenmkhmkommcaaGreat

/-
  Contracts of layer 9's program: settle and Crash. Conditions: lists of at most a million.
-/
namespace Go.Proofs.YtlenmkhmkommcaaGreat
open Go.RowKit
set_option linter.unusedVariables false

/-- Blocks of touches, and the disk's own, may have been written: the rest is as it was. -/
theorem Dm.pp {U U' T : Nat → Prop} {w w' : World} {d r : Nat} {D : DskS} {M : Mm} (h : Dm U w d r D M) (s : Sp U U' T w w') (hT : ∀ j, T j → U j → Ty w j 114 ∨ Ty w j 91) : PastI U' w' M.mp M.f D.safe ∧ PlotI U' w' M.mq M.g D.steps D.plot ∧ Pw w' r D.p := by
  have no : ∀ j e, T j → U j → e ≠ 114 → e ≠ 91 → ¬ Ty w j e := fun j e ht hu h1 h2 he => by
    rcases hT j ht hu with h3 | h3
    · exact h1 (he.one h3)
    · exact h2 (he.one h3)
  refine ⟨h.past.turn s fun j ht hu => ⟨fun e => ?_, no j _ ht hu (by decide) (by decide)⟩, h.plot.turn s fun j ht hu => ⟨fun e => ?_, no j _ ht hu (by decide) (by decide)⟩, h.pw.same (s.kp.block r h.pw.lt fun ht => no r _ ht h.inR (by decide) (by decide) h.pw.ty)⟩
  · subst e
    rcases hT _ ht hu with h3 | h3
    · exact h.past.map.noTy _ h3
    · exact h.past.map.noTy _ h3
  · rcases hT _ ht hu with h3 | h3
    · exact (h.plot.map j e).1.noTy _ h3
    · exact (h.plot.map j e).1.noTy _ h3
theorem Dm.not5 {U : Nat → Prop} {w : World} {d r : Nat} {D : DskS} {M : Mm} (h : Dm U w d r D M) : Wr U w d := ⟨h.inD, fun ht => absurd (ht.one h.blk.ty) (by decide)⟩
/-- Nothing waits. -/
theorem Dm.cleared {U : Nat → Prop} {w : World} {d r : Nat} {D : DskS} {M : Mm} (h : Dm U w d r D M) : Dn U w d r { D with loose := [] } (w.setCell ⟨d, 4, none⟩ (.slice none 0 0)) := by
  have k := kp_set w d 4 (.slice none 0 0)
  have s : Sp U U (fun j => j = d) w (w.setCell ⟨d, 4, none⟩ (.slice none 0 0)) := ⟨k, fun j e _ ht => by subst e; exact h.not5.2 ht, fun _ hu => hu⟩
  obtain ⟨p1, p2, p3⟩ := h.pp s fun j e _ => Or.inr (by rw [e]; exact h.blk.ty)
  refine ⟨U, { M with wa := none, wn := 0, wc := 0 }, ⟨fun j hj => Nat.lt_of_lt_of_le (h.lt j hj) k.size, h.inD, h.inR, h.blk.setC 4 _, p3, p1, ⟨OwS.nil _ _ _ _ _, fun j hj => by simp [Value.ownBlock] at hj⟩, h.seen.turn s fun j e _ hj => ?_, fun j hj => by simp [Value.ownBlock] at hj, p2, h.maps, h.len1, (fun c hc => by cases hc), h.len3⟩, Next.refl _ _, k.mono fun j _ e => by rw [e]; exact h.not5⟩
  subst e
  exact absurd ((h.seen.row.ty _ hj).one h.blk.ty) (by decide)
/-- These are safe, too. -/
def DskS.plus (D : DskS) (l : List Chg) : DskS := { D with safe := D.safe ++ l }
theorem plus_plus (D : DskS) (l m : List Chg) : (D.plus l).plus m = D.plus (l ++ m) := by simp [DskS.plus, List.append_assoc]
theorem plus_nil (D : DskS) : D.plus [] = D := by simp [DskS.plus]
theorem settles_plus : ∀ (l : List Chg) (D : DskS), (∀ c ∈ l, c.2.length = 512) → D.settles l = D.plus l
  | [], D, _ => (plus_nil D).symm
  | c :: l, D, h => by
    have e : D.settles (c :: l) = (D.settle c.1 c.2).settles l := rfl
    rw [e, settles_plus l _ fun c hc => h c (List.mem_cons_of_mem _ hc), show D.settle c.1 c.2 = D.plus [c] from by unfold DskS.settle DskS.plus; rw [fit_same (h c (List.mem_cons_self ..))], plus_plus]
    rfl
/-- In the middle of a loop over what waits. -/
def Lp (U : Nat → Prop) (w : World) (d r : Nat) (D : DskS) (M : Mm) (l : List Chg) (wr : World) : Prop := ∃ U' f', Dm U' wr d r (D.plus l) { M with f := f' } ∧ Next w U U' ∧ Kp (Wr U w) w wr
theorem Lp.start {U : Nat → Prop} {w : World} {d r : Nat} {D : DskS} {M : Mm} (h : Dm U w d r D M) : Lp U w d r D M [] w := ⟨U, M.f, by rw [plus_nil]; exact h, Next.refl _ _, Kp.refl _ _⟩
theorem Lp.grow {U : Nat → Prop} {w wr w' : World} {d r : Nat} {D : DskS} {M : Mm} {l : List Chg} (h : Lp U w d r D M l wr) (k : Below wr.heap.size wr w') : Lp U w d r D M l w' := by
  obtain ⟨U', f', hm, hn, hk⟩ := h
  exact ⟨U', f', hm.below k, hn, hk.trans (Kp.of_below k)⟩
theorem Lp.elem {U : Nat → Prop} {w wr : World} {d r : Nat} {D : DskS} {M : Mm} {l : List Chg} (h : Lp U w d r D M l wr) (hz : D.safe.length + l.length + 1 ≤ 1000000) {k : Nat} {c : Chg} (hx : D.loose[k]? = some c) (hl : c.2.length = 512) :
    ∃ b o p m q, M.wa = some ⟨b, o, none⟩ ∧ b < wr.heap.size ∧ wr.rangeAt b (o + k * 3) [.int .i64 1, .int .i64 c.1, .slice p m q] ∧ ∀ v3, Below wr.heap.size wr v3 → Calls Tryz.prog 49 #[.pointer (some ⟨d, 0, none⟩), .int .i64 c.1, .slice p m q] v3 fun e w' => e = .returned (.tuple #[]) ∧ Lp U w d r D M (l ++ [c]) w' := by
  obtain ⟨U', f', hm, hn, hk⟩ := h
  have hx' : (D.loose.map t3)[k]? = some (1, c.1, c.2) := by rw [List.getElem?_map, hx]; rfl
  obtain ⟨b, o, vs, ha, hlt, hrg, _, p, m, q, rfl, h5, _⟩ := (hm.wait.row.sl3 (A := fun _ => True) (fun _ _ _ => trivial)).at hx'
  refine ⟨b, o, p, m, q, ha, hlt, hrg, fun v3 hb3 => ?_⟩
  refine (oChange v3 (hm.below hb3) (by show (D.safe ++ l).length + 1 ≤ _; rw [List.length_append]; omega) c.1 (h5.below hb3) hl).mono ?_
  rintro e w' ⟨he, U2, f2, hm2, hn2, hk2⟩
  refine ⟨he, U2, f2, ?_, (hn.trans hn2 (Nat.le_trans hk.size hb3.size)), (hk.trans (Kp.of_below hb3)).wr hn hk2⟩
  have e2 : (D.plus (l ++ [c])) = { D.plus l with safe := (D.plus l).safe ++ [(c.1, c.2)] } := by rw [← plus_plus]; rfl
  rw [e2]
  exact hm2
theorem Lp.head {U : Nat → Prop} {w wr : World} {d r : Nat} {D : DskS} {M : Mm} {l : List Chg} (h : Lp U w d r D M l wr) : d < wr.heap.size ∧ wr.cell? ⟨d, 4, none⟩ = some (.slice M.wa M.wn M.wc) ∧ wr.frozen? ⟨d, 4, none⟩ = false := by
  obtain ⟨U', f', hm, hn, hk⟩ := h
  exact ⟨hm.blk.lt, hm.blk.cell 4, hm.blk.free 4⟩
theorem Lp.done {U : Nat → Prop} {w wr : World} {d r : Nat} {D : DskS} {M : Mm} {l : List Chg} (h : Lp U w d r D M l wr) : Dn U w d r { D.plus l with loose := [] } (wr.setCell ⟨d, 4, none⟩ (.slice none 0 0)) := by
  obtain ⟨U', f', hm, hn, hk⟩ := h
  exact Dn.more hk hn hm.cleared
theorem size88 : (Tryz.prog.info? 114).map (·.size) = some 3 := by kernel_rfl
theorem one88 (k a : Int) (p : Option Addr) (m q : Nat) : ∀ v ∈ [Value.int .i64 k, .int .i64 a, .slice p m q], v.oneCell' = true := by
  intro v hv
  simp at hv
  rcases hv with rfl | rfl | rfl <;> rfl
theorem Dm.wlen {U : Nat → Prop} {w : World} {d r : Nat} {D : DskS} {M : Mm} (h : Dm U w d r D M) : D.loose.length = M.wn := by
  obtain ⟨a, n, c, hv, hl⟩ := h.wait.row.shape
  simp only [Value.slice.injEq] at hv
  rw [List.length_map] at hl
  rw [hl, hv.2.1]
set_option maxRecDepth 100000 in
set_option maxHeartbeats 4000000 in
theorem oSettle (w : World) {U : Nat → Prop} {d r : Nat} {D : DskS} {M : Mm} (h : Dm U w d r D M) (hz : D.safe.length + D.loose.length + 1 ≤ 1000000) :
    Calls Tryz.prog 139 #[.pointer (some ⟨d, 0, none⟩)] w fun e w' => e = .returned (.tuple #[]) ∧ Dn U w d r { D.plus D.loose with loose := [] } w' := by
  have hl := h.blk.lt
  have c4 : w.cell? ⟨d, 4, none⟩ = some (.slice M.wa M.wn M.wc) := h.blk.cell 4
  have HN : Hid (D.loose.length = M.wn) := h.wlen
  have HZ : Hid (D.safe.length + D.loose.length + 1 ≤ 1000000) := hz
  have HL : Hid (∀ c ∈ D.loose, c.2.length = 512) := h.len2
  have hwn : M.wn ≤ 1000000 := by rw [← HN.out]; omega
  have LS := Lp.start h
  clear h hz
  go_enter Tryz.func139, Tryz.ntmps139
  go_wp2_with fail
  go_loopw [9] (fun i wr => ∃ k : Nat, k ≤ M.wn ∧ i = .int .i64 (k : Int) ∧ Lp U w d r D M (D.loose.take k) wr) (fun i _ => M.wn - (intOf i).toNat)
  case atStart => exact ⟨0, Nat.zero_le _, rfl, LS⟩
  case round =>
    obtain ⟨k, hk, rfl, LP⟩ := hrel
    clear LS c4 hl
    by_cases hlt : k < M.wn
    · have i0 : (k : Int) < (M.wn : Int) := by omega
      obtain ⟨c, hx⟩ : ∃ c, D.loose[k]? = some c := ⟨_, List.getElem?_eq_getElem (by rw [HN.out]; exact hlt)⟩
      obtain ⟨eb, eo, p, m, q, ha, hlb, hrg, CC⟩ := LP.elem (by have := HZ.out; rw [List.length_take]; omega) hx (HL.out c (List.mem_of_getElem? hx))
      have HT : Hid (D.loose.take k ++ [c] = D.loose.take (k + 1)) := by show _ = _; rw [List.take_add_one, hx]; rfl
      have HC : Hid _ := CC
      obtain ⟨ca, cb⟩ := c
      dsimp only at hrg HC
      have z7 : Blk (wr.alloc (.cells #[.int .i64 0, .int .i64 0, .slice none 0 0] 114)) wr.heap.size [.int .i64 0, .int .i64 0, .slice none 0 0] 114 := Blk.newAt wr _ _ wr.heap.size rfl _ rfl
      have k7 : Below wr.heap.size wr (wr.alloc (.cells #[.int .i64 0, .int .i64 0, .slice none 0 0] 114)) := below_alloc _ _
      clear hx CC LP
      rw [ha]
      go_wp2_with (first
        | ((with_reducible refine at_ld 114 ?_); (refine ld 114 (.tmp 11) 3 size88 _ Tryz.underlying114 rfl eb (eo + k * 3) [.int .i64 1, .int .i64 ca, .slice p m q] rfl hrg rfl ?_))
        | ((with_reducible refine at_st 114 ?_); (refine st' 114 (.tmp 3) (.tmp 12) 3 size88 wr.heap.size 0 [.int .i64 1, .int .i64 ca, .slice p m q] rfl (one88 _ _ _ _ _) (z7.there 0 3 (by simp)) rfl rfl ?_); intro v3 hv3; have b3 : Blk v3 wr.heap.size [.int .i64 1, .int .i64 ca, .slice p m q] 114 := (by rw [hv3]; exact z7.setsW _ rfl); have k3 : Below wr.heap.size wr v3 := (by rw [hv3]; exact below_sets (Nat.le_refl _) _ k7 0); have c1 : v3.cell? ⟨wr.heap.size, 1, none⟩ = some (.int .i64 ca) := b3.cell 1; have c2 : v3.cell? ⟨wr.heap.size, 2, none⟩ = some (.slice p m q) := b3.cell 2; have l3 := b3.lt; clear hv3))
      refine (HC.out v3 k3).mono ?_
      rintro e w4 ⟨rfl, LP4⟩
      rw [HT.out] at LP4
      clear c1 c2 l3 b3 k3 z7 k7 hrg HC HT
      go_wp2_with fail
      go_roundw
      case rel => exact ⟨k + 1, by omega, by go_num, LP4⟩
      case measure => simp [intOf]; omega
    · have i0 : ¬ (k : Int) < (M.wn : Int) := by omega
      obtain ⟨l5, c5, z5⟩ := LP.head
      rw [List.take_of_length_le (by rw [HN.out]; omega)] at LP
      have HD : Hid _ := LP.done
      clear LP
      go_wp2_with fail
      go_end0
      exact ⟨rfl, HD.out⟩
theorem kept_more : ∀ (l : List Chg) (b : List Bool) (k : Nat) (c : Chg), l[k]? = some c → kept (l.take (k + 1)) b = kept (l.take k) b ++ (if b.getD k false then [c] else [])
  | [], _, _, _, h => by simp at h
  | a :: l, [], k, c, h => by
    cases k <;> simp [kept]
  | a :: l, y :: b, 0, c, h => by
    simp at h
    subst h
    cases y <;> simp [kept]
  | a :: l, y :: b, k + 1, c, h => by
    have := kept_more l b k c (by simpa using h)
    cases y
    · simpa [kept] using this
    · simp only [List.take_succ_cons, kept]
      rw [this]
      rfl
theorem keptP_mem : ∀ (l : List Chg) (b : List Bool) (c : Chg), c ∈ kept l b → c ∈ l
  | [], b, c, h => by cases b <;> simp [kept] at h
  | a :: l, [], c, h => by simp [kept] at h
  | a :: l, true :: b, c, h => by
    simp only [kept, List.mem_cons] at h
    rcases h with rfl | h
    · simp
    · exact List.mem_cons_of_mem _ (keptP_mem l b c h)
  | a :: l, false :: b, c, h => List.mem_cons_of_mem _ (keptP_mem l b c h)
theorem Lp.bo {U : Nat → Prop} {w wr : World} {d r : Nat} {D : DskS} {M : Mm} {l : List Chg} (h : Lp U w d r D M l wr) {a : Option Addr} {n c : Nat} {b : List Bool} (hb : BoA (fun j => ¬ Wr U w j) w a n c b) : BoA (fun j => ¬ Wr U w j) wr a n c b := by
  obtain ⟨U', f', hm, hn, hk⟩ := h
  exact hb.keep hk.size fun j hj ha => hk.block j hj ha
set_option maxRecDepth 100000 in
set_option maxHeartbeats 4000000 in
theorem oCrash (w : World) {U : Nat → Prop} {d r : Nat} {D : DskS} {M : Mm} (h : Dm U w d r D M) (hz : D.safe.length + D.loose.length + 1 ≤ 1000000) {bp : Option Addr} {bm bc : Nat} {bl : List Bool} (hb : BoA (fun j => ¬ Wr U w j) w bp bm bc bl) (hbm : bm ≤ 1000000) :
    Calls Tryz.prog 18 #[.pointer (some ⟨d, 0, none⟩), .slice bp bm bc] w fun e w' => e = .returned (.tuple #[]) ∧ Dn U w d r { D.plus (kept D.loose bl) with loose := [] } w' := by
  have hl := h.blk.lt
  have c4 : w.cell? ⟨d, 4, none⟩ = some (.slice M.wa M.wn M.wc) := h.blk.cell 4
  have HN : Hid (D.loose.length = M.wn) := h.wlen
  have HZ : Hid (D.safe.length + D.loose.length + 1 ≤ 1000000) := hz
  have HL : Hid (∀ c ∈ D.loose, c.2.length = 512) := h.len2
  have HB : Hid (BoA (fun j => ¬ Wr U w j) w bp bm bc bl) := hb
  have HBL : Hid (bl.length = bm) := hb.1.len
  have hwn : M.wn ≤ 1000000 := by rw [← HN.out]; omega
  have LS := Lp.start h
  clear h hz hb
  go_enter Tryz.func18, Tryz.ntmps18
  go_wp2_with fail
  go_loopw [11] (fun i wr => ∃ k : Nat, k ≤ M.wn ∧ i = .int .i64 (k : Int) ∧ Lp U w d r D M (kept (D.loose.take k) bl) wr) (fun i _ => M.wn - (intOf i).toNat)
  case atStart => exact ⟨0, Nat.zero_le _, rfl, by rw [List.take_zero, show kept [] bl = [] from by cases bl <;> rfl]; exact LS⟩
  case round =>
    obtain ⟨k, hk, rfl, LP⟩ := hrel
    clear LS c4 hl
    by_cases hlt : k < M.wn
    · have i0 : (k : Int) < (M.wn : Int) := by omega
      obtain ⟨c, hx⟩ : ∃ c, D.loose[k]? = some c := ⟨_, List.getElem?_eq_getElem (by rw [HN.out]; exact hlt)⟩
      obtain ⟨eb, eo, p, m, q, ha, hlb, hrg, CC⟩ := LP.elem (by have := HZ.out; have := kept_len (D.loose.take k) bl; rw [List.length_take] at this; omega) hx (HL.out c (List.mem_of_getElem? hx))
      have HT : Hid (kept (D.loose.take k) bl ++ (if bl.getD k false then [c] else []) = kept (D.loose.take (k + 1)) bl) := (kept_more _ _ _ _ hx).symm
      have HC : Hid _ := CC
      have HLP : Hid (∀ v3, Below wr.heap.size wr v3 → Lp U w d r D M (kept (D.loose.take k) bl) v3) := fun v3 hb => LP.grow hb
      have HBW := LP.bo HB.out
      obtain ⟨ca, cb⟩ := c
      dsimp only at hrg HC
      have z7 : Blk (wr.alloc (.cells #[.int .i64 0, .int .i64 0, .slice none 0 0] 114)) wr.heap.size [.int .i64 0, .int .i64 0, .slice none 0 0] 114 := Blk.newAt wr _ _ wr.heap.size rfl _ rfl
      have k7 : Below wr.heap.size wr (wr.alloc (.cells #[.int .i64 0, .int .i64 0, .slice none 0 0] 114)) := below_alloc _ _
      clear hx CC LP
      rw [ha]
      by_cases hkm : k < bm
      · have i1 : (k : Int) < (bm : Int) := by omega
        obtain ⟨xb, xo, hbp, hlx, hcx⟩ := HBW.1.at (by omega)
        have cx := hcx k hkm
        clear hcx HBW
        subst hbp
        cases hkb : bl.getD k false with
        | true =>
          rw [hkb] at cx HT
          have HT2 : Hid (kept (D.loose.take k) bl ++ [(ca, cb)] = kept (D.loose.take (k + 1)) bl) := HT
          clear hkb HT HLP
          go_wp2_with (first
            | ((with_reducible refine at_ld 114 ?_); (refine ld 114 (.tmp 14) 3 size88 _ Tryz.underlying114 rfl eb (eo + k * 3) [.int .i64 1, .int .i64 ca, .slice p m q] rfl hrg rfl ?_))
            | ((with_reducible refine at_st 114 ?_); (refine st' 114 (.tmp 5) (.tmp 15) 3 size88 wr.heap.size 0 [.int .i64 1, .int .i64 ca, .slice p m q] rfl (one88 _ _ _ _ _) (z7.there 0 3 (by simp)) rfl rfl ?_); intro v3 hv3; have b3 : Blk v3 wr.heap.size [.int .i64 1, .int .i64 ca, .slice p m q] 114 := (by rw [hv3]; exact z7.setsW _ rfl); have k3 : Below wr.heap.size wr v3 := (by rw [hv3]; exact below_sets (Nat.le_refl _) _ k7 0); have c1 : v3.cell? ⟨wr.heap.size, 1, none⟩ = some (.int .i64 ca) := b3.cell 1; have c2 : v3.cell? ⟨wr.heap.size, 2, none⟩ = some (.slice p m q) := b3.cell 2; have l3 := b3.lt; have cx3 : v3.cell? ⟨xb, xo + k, none⟩ = some (.bool true) := (k3.cell (p := ⟨xb, xo + k, none⟩) hlx).trans cx; clear hv3))
          refine (HC.out v3 k3).mono ?_
          rintro e w4 ⟨rfl, LP4⟩
          rw [HT2.out] at LP4
          clear c1 c2 l3 b3 k3 z7 k7 hrg HC HT2 cx cx3
          go_wp2_with fail
          go_roundw
          case rel => exact ⟨k + 1, by omega, by go_num, LP4⟩
          case measure => simp [intOf]; omega
        | false =>
          rw [hkb] at cx HT
          have HT2 : Hid (kept (D.loose.take k) bl = kept (D.loose.take (k + 1)) bl) := by show _ = _; rw [← HT.out]; simp
          clear hkb HT HC
          go_wp2_with (first
            | ((with_reducible refine at_ld 114 ?_); (refine ld 114 (.tmp 14) 3 size88 _ Tryz.underlying114 rfl eb (eo + k * 3) [.int .i64 1, .int .i64 ca, .slice p m q] rfl hrg rfl ?_))
            | ((with_reducible refine at_st 114 ?_); (refine st' 114 (.tmp 5) (.tmp 15) 3 size88 wr.heap.size 0 [.int .i64 1, .int .i64 ca, .slice p m q] rfl (one88 _ _ _ _ _) (z7.there 0 3 (by simp)) rfl rfl ?_); intro v3 hv3; have b3 : Blk v3 wr.heap.size [.int .i64 1, .int .i64 ca, .slice p m q] 114 := (by rw [hv3]; exact z7.setsW _ rfl); have k3 : Below wr.heap.size wr v3 := (by rw [hv3]; exact below_sets (Nat.le_refl _) _ k7 0); have LP4 := HLP.out v3 k3; have cx3 : v3.cell? ⟨xb, xo + k, none⟩ = some (.bool false) := (k3.cell (p := ⟨xb, xo + k, none⟩) hlx).trans cx; clear hv3))
          rw [HT2.out] at LP4
          go_roundw
          case rel => exact ⟨k + 1, by omega, by go_num, LP4⟩
          case measure => simp [intOf]; omega
      · have i1 : ¬ (k : Int) < (bm : Int) := by omega
        have HT2 : Hid (kept (D.loose.take k) bl = kept (D.loose.take (k + 1)) bl) := by
          show _ = _
          rw [← HT.out, show bl.getD k false = false from by rw [List.getD_eq_getElem?_getD, List.getElem?_eq_none (by rw [HBL.out]; omega)]; rfl]
          simp
        clear HT HC HBW
        go_wp2_with (first
          | ((with_reducible refine at_ld 114 ?_); (refine ld 114 (.tmp 14) 3 size88 _ Tryz.underlying114 rfl eb (eo + k * 3) [.int .i64 1, .int .i64 ca, .slice p m q] rfl hrg rfl ?_))
          | ((with_reducible refine at_st 114 ?_); (refine st' 114 (.tmp 5) (.tmp 15) 3 size88 wr.heap.size 0 [.int .i64 1, .int .i64 ca, .slice p m q] rfl (one88 _ _ _ _ _) (z7.there 0 3 (by simp)) rfl rfl ?_); intro v3 hv3; have k3 : Below wr.heap.size wr v3 := (by rw [hv3]; exact below_sets (Nat.le_refl _) _ k7 0); have LP4 := HLP.out v3 k3; clear hv3))
        rw [HT2.out] at LP4
        go_roundw
        case rel => exact ⟨k + 1, by omega, by go_num, LP4⟩
        case measure => simp [intOf]; omega
    · have i0 : ¬ (k : Int) < (M.wn : Int) := by omega
      obtain ⟨l5, c5, z5⟩ := LP.head
      rw [List.take_of_length_le (by rw [HN.out]; omega)] at LP
      have HD : Hid _ := LP.done
      clear LP
      go_wp2_with fail
      go_end0
      exact ⟨rfl, HD.out⟩

end Go.Proofs.YtlenmkhmkommcaaGreat
