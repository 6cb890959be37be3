/-
  4 texts in one. No statement of the seat is proved here.
-/
import Derived.Test.YtlenmkhmkommcaaGreatJ19

/-
  Contracts of layer 9's program: Look, and what a block becomes by what somebody else does (poked). Conditions: lists of at most a million, bytes of at most 1000.
-/
namespace Go.Proofs.YtlenmkhmkommcaaGreat
open Go.RowKit
set_option linter.unusedVariables false

theorem Dm.ago_len {U : Nat → Prop} {w : World} {d r : Nat} {D : DskS} {M : Mm} (h : Dm U w d r D M) (k : Int) (n : Nat) : (D.ago k n).length = 512 := by
  rw [ago_past, List.getD_eq_getElem?_getD]
  cases hx : (pastL D.safe k).reverse[n]? with
  | none => exact z512_length
  | some b =>
    obtain ⟨c, hc, e⟩ := pastL_mem (List.mem_reverse.1 (List.mem_of_getElem? hx))
    show b.length = 512
    rw [← e]
    exact h.len1 c hc
theorem lookR_mem {at_ : Int} {b : List UInt8} : ∀ {l : List Chg}, lookR l at_ = some b → ∃ c ∈ l, c.2 = b
  | [], h => by simp [lookR] at h
  | c :: l, h => by
    by_cases hc : c.1 = at_
    · rw [lookR_hit hc] at h
      exact ⟨c, by simp, Option.some.inj h⟩
    · rw [lookR_miss hc] at h
      obtain ⟨c', hc', e⟩ := lookR_mem h
      exact ⟨c', by simp [hc'], e⟩
theorem Dm.look_len {U : Nat → Prop} {w : World} {d r : Nat} {D : DskS} {M : Mm} (h : Dm U w d r D M) (k : Int) : (D.look k).length = 512 := by
  unfold DskS.look
  cases hx : lookR D.loose.reverse k with
  | none => exact h.ago_len k 0
  | some b =>
    obtain ⟨c, hc, e⟩ := lookR_mem hx
    show b.length = 512
    rw [← e]
    exact h.len2 c (List.mem_reverse.1 hc)
theorem look_step {l : List Chg} {k : Nat} {c : Chg} (hx : l[k]? = some c) (at_ : Int) : lookR (l.take (k + 1)).reverse at_ = if c.1 = at_ then some c.2 else lookR (l.take k).reverse at_ := by
  rw [List.take_add_one, hx, List.reverse_append]
  show lookR (c :: (l.take k).reverse) at_ = _
  by_cases h : c.1 = at_
  · rw [lookR_hit h, if_pos h]
  · rw [lookR_miss h, if_neg h]
/-- One part, new. -/
theorem oJoin1 (w : World) {p : Option Addr} {m c : Nat} {b : List UInt8} (h : Bs w p m c b) (hz : b.length ≤ 99000) : Calls Tryz.prog 67 #[.slice (some ⟨w.heap.size, 0, none⟩) 1 1] (w.alloc (.cells #[.slice p m c] 26)) fun e w' => ∃ a m c, e = .returned (.slice a m c) ∧ Own w' w.heap.size (.slice a m c) b ∧ Below w.heap.size w w' := by
  refine (oJoin _ (Bss.one1 h) (by simp [tot]; omega)).mono ?_
  rintro e w2 ⟨a3, m3, c3, rfl, o3, hb3⟩
  rw [show [b].flatten = b from by simp] at o3
  have kk : Below w.heap.size w (w.alloc (.cells #[.slice p m c] 26)) := below_alloc _ _
  exact ⟨a3, m3, c3, rfl, o3.mono kk.size, kk.trans (hb3.mono kk.size)⟩
set_option maxRecDepth 100000 in
theorem oLookOut (w : World) {d r : Nat} {D : DskS} {M : Mm} (hb : Blk w d (hc r D M) 91) (at_ : Int) (hat : ¬ (0 ≤ at_ ∧ at_ < D.n)) : Calls Tryz.prog 30 #[.pointer (some ⟨d, 0, none⟩), .int .i64 at_] w fun e w' => e = .returned (.slice none 0 0) ∧ w' = w := by
  have CH := oHas w hb at_
  rw [decide_eq_false hat] at CH
  clear hb hat
  go_enter Tryz.func30, Tryz.ntmps30
  go_wp2_with fail
  refine CH.mono ?_
  rintro e w1 ⟨rfl, rfl⟩
  go_wp2_with fail
  go_ret
  exact ⟨rfl, rfl⟩
set_option maxRecDepth 100000 in
set_option maxHeartbeats 4000000 in
theorem oLookIn (w : World) {U : Nat → Prop} {d r : Nat} {D : DskS} {M : Mm} (h : Dm U w d r D M) (hz : D.safe.length ≤ 1000000) (hz2 : D.loose.length ≤ 1000000) (at_ : Int) (hat : 0 ≤ at_ ∧ at_ < D.n) : Calls Tryz.prog 30 #[.pointer (some ⟨d, 0, none⟩), .int .i64 at_] w (Gives w (D.look at_)) := by
  have CH := oHas w h.blk at_
  rw [decide_eq_true hat] at CH
  have CS := oSafe w h hz at_ 0 (by omega)
  have hl := h.blk.lt
  have c4 : w.cell? ⟨d, 4, none⟩ = some (.slice M.wa M.wn M.wc) := h.blk.cell 4
  have HN : Hid (D.loose.length = M.wn) := h.wlen
  have hwn : M.wn ≤ 1000000 := by rw [← HN.out]; exact hz2
  have HW : Hid (OwS (elT U) 3 114 w 0 (.slice M.wa M.wn M.wc) (D.loose.map t3)) := h.wait.row
  have HL2 : Hid (∀ c ∈ D.loose, c.2.length = 512) := h.len2
  have HAL : Hid ((D.ago at_ 0).length = 512) := h.ago_len at_ 0
  obtain ⟨B, hB⟩ : ∃ B, B = D.look at_ := ⟨_, rfl⟩
  have HB : Hid (B = (lookR D.loose.reverse at_).getD (D.ago at_ 0)) := hB
  rw [← hB]
  have CS' : Hid (Calls Tryz.prog 68 #[.pointer (some ⟨d, 0, none⟩), .int .i64 at_, .int .i64 0] w fun e w' => ∃ p m c, e = .returned (.slice p m c) ∧ B5 (fun j => U j ∨ w.heap.size ≤ j) w' p m c (D.ago at_ 0) ∧ Below w.heap.size w w') := CS
  clear h hz hz2 hat hB CS
  go_enter Tryz.func30, Tryz.ntmps30
  go_wp2_with fail
  refine CH.mono ?_
  rintro e w1 ⟨rfl, rfl⟩
  clear CH
  go_wp2_with fail
  go_loopw [5] (fun iv wr => ∃ t : Nat, t ≤ M.wn ∧ iv = .int .i64 ((M.wn : Int) - 1 - (t : Int)) ∧ Hid (lookR (D.loose.take (M.wn - t)).reverse at_ = lookR D.loose.reverse at_) ∧ wr = w1) (fun iv _ => (intOf iv + 1).toNat)
  case atStart => exact ⟨0, Nat.zero_le _, by simp, by show _ = _; rw [Nat.sub_zero, List.take_of_length_le (by rw [HN.out]; exact Nat.le_refl _)], rfl⟩
  case round =>
    obtain ⟨t, ht, rfl, HI, rfl⟩ := hrel
    by_cases hlt : t < M.wn
    · obtain ⟨i, hi⟩ : ∃ i : Nat, i = M.wn - 1 - t := ⟨_, rfl⟩
      have e1 : (M.wn : Int) - 1 - (t : Int) = (i : Int) := by omega
      have hin : i < M.wn := by omega
      obtain ⟨c, hx⟩ : ∃ c, D.loose[i]? = some c := ⟨_, List.getElem?_eq_getElem (by rw [HN.out]; exact hin)⟩
      have hx' : (D.loose.map t3)[i]? = some (1, c.1, c.2) := by rw [List.getElem?_map, hx]; rfl
      obtain ⟨eb, eo, p, m, q, ha, hlb, hrg, h5, _⟩ := HW.out.touchAt hx'
      have hst := look_step hx at_
      have hcl := HL2.out c (List.mem_of_getElem? hx)
      rw [show M.wn - t = i + 1 from by omega] at HI
      have e3 : (i : Int) - 1 = (M.wn : Int) - 1 - ((t + 1 : Nat) : Int) := by omega
      have HE3 : Hid ((i : Int) - 1 = (M.wn : Int) - 1 - ((t + 1 : Nat) : Int)) := e3
      have hti : Hid (M.wn - (t + 1) = i) := by show _ = _; omega
      clear hi
      obtain ⟨ca, cb⟩ := c
      dsimp only at hrg h5 hst hcl
      have c1 : wr.cell? ⟨eb, eo + i * 3 + 1, none⟩ = some (.int .i64 ca) := hrg 1 _ rfl
      have c2 : wr.cell? ⟨eb, eo + i * 3 + 2, none⟩ = some (.slice p m q) := hrg 2 _ rfl
      have i0 : (i : Int) < (M.wn : Int) := by omega
      rw [e1, ha]
      rw [ha] at c4
      by_cases hq : ca = at_
      · have jq : (ca == at_) = true := by simp [hq]
        have HBB : Hid (B = cb) := by show _ = _; rw [HB.out, ← HI.out, hst, if_pos hq]; rfl
        have CJ := oJoin1 wr h5.bs (by omega)
        clear hq hst HI hx hx' hrg h5 e3 HE3 e1 hti CS'
        go_wp2_with fail
        refine CJ.mono ?_
        rintro e w2 ⟨a3, m3, c3, rfl, o3, hb3⟩
        clear CJ c1 c2 c4
        go_wp2_with fail
        go_ret
        exact ⟨a3, m3, c3, rfl, by rw [HBB.out]; exact o3, hb3⟩
      · have jq : (ca == at_) = false := by simp [hq]
        have HI2 : Hid (lookR (D.loose.take i).reverse at_ = lookR D.loose.reverse at_) := by show _ = _; rw [← HI.out, hst, if_neg hq]
        clear hq hst HI hx hx' hrg h5 e3 e1 CS'
        go_wp2_with fail
        go_roundw
        case rel => exact ⟨t + 1, by omega, by rw [HE3.out], by rw [hti.out]; exact HI2, trivial⟩
        case measure => simp [intOf]
    · obtain rfl : t = M.wn := by omega
      have e1 : (M.wn : Int) - 1 - (M.wn : Int) = -1 := by omega
      have HBB : Hid (B = D.ago at_ 0) := by show _ = _; rw [HB.out, ← HI.out, Nat.sub_self, List.take_zero]; rfl
      rw [e1]
      clear e1 HI c4
      go_wp2_with fail
      refine CS'.out.mono ?_
      rintro e w2 ⟨p, m, q, rfl, h5, hb2⟩
      have CJ := oJoin1 w2 h5.bs (by rw [HAL.out]; omega)
      go_wp2_with fail
      refine CJ.mono ?_
      rintro e w3 ⟨a3, m3, c3, rfl, o3, hb3⟩
      go_wp2_with fail
      go_ret
      exact ⟨a3, m3, c3, rfl, by rw [HBB.out]; exact o3.mono hb2.size, hb2.trans (hb3.mono hb2.size)⟩

end Go.Proofs.YtlenmkhmkommcaaGreat

/-
  Contracts of layer 9's program: what a block becomes by what somebody else does (poked), and Poke. Conditions: lists of at most a million, bytes of at most 1000.
-/
namespace Go.Proofs.YtlenmkhmkommcaaGreat
open Go.RowKit
set_option linter.unusedVariables false

/-- What waits is other touches, in a row of the old one's block or of a new one. -/
theorem Dm.waits {U : Nat → Prop} {w w' : World} {d r : Nat} {D : DskS} {M : Mm} (h : Dm U w d r D M) {L : List Chg} {a : Option Addr} {n c : Nat} (k : Kp (fun j => (Value.slice M.wa M.wn M.wc).ownBlock = some j ∨ j = d) w w') (hb : Blk w' d (hc r { D with loose := L } { M with wa := a, wn := n, wc := c }) 91)
    (ho : OwS (elT fun j => U j ∨ (w.heap.size ≤ j ∧ j < w'.heap.size)) 3 114 w' 0 (.slice a n c) (L.map t3)) (hv : ∀ j, (Value.slice a n c).ownBlock = some j → (Value.slice M.wa M.wn M.wc).ownBlock = some j ∨ w.heap.size ≤ j) (hl : ∀ c ∈ L, c.2.length = 512) :
    Dm (fun j => U j ∨ (w.heap.size ≤ j ∧ j < w'.heap.size)) w' d r { D with loose := L } { M with wa := a, wn := n, wc := c } ∧ Next w U (fun j => U j ∨ (w.heap.size ≤ j ∧ j < w'.heap.size)) ∧ Kp (Wr U w) w w' := by
  have hT : ∀ j, ((Value.slice M.wa M.wn M.wc).ownBlock = some j ∨ j = d) → U j ∧ (Ty w j 114 ∨ Ty w j 91) := by
    rintro j (hj | rfl)
    · exact ⟨h.wait.at_ j hj, Or.inl (h.wait.row.ty j hj)⟩
    · exact ⟨h.inD, Or.inr h.blk.ty⟩
  have h5 : ∀ j, ((Value.slice M.wa M.wn M.wc).ownBlock = some j ∨ j = d) → ¬ Ty w j 5 := fun j hj ht => by
    rcases (hT j hj).2 with h1 | h1
    · exact absurd (ht.one h1) (by decide)
    · exact absurd (ht.one h1) (by decide)
  have s : Sp U (fun j => U j ∨ (w.heap.size ≤ j ∧ j < w'.heap.size)) (fun j => (Value.slice M.wa M.wn M.wc).ownBlock = some j ∨ j = d) w w' := ⟨k, fun j ht _ => h5 j ht, fun _ hu => Or.inl hu⟩
  obtain ⟨p1, p2, p3⟩ := h.pp s fun j ht _ => (hT j ht).2
  refine ⟨⟨?_, Or.inl h.inD, Or.inl h.inR, hb, p3, p1, ⟨ho, fun j hj => ?_⟩, h.seen.turn s ?_, ?_, p2, h.maps, h.len1, hl, h.len3⟩, ?_, k.mono fun j _ hj => ⟨(hT j hj).1, h5 j hj⟩⟩
  · rintro j (hj | hj)
    · exact Nat.lt_of_lt_of_le (h.lt j hj) k.size
    · exact hj.2
  · rcases hv j hj with h1 | h1
    · exact Or.inl (h.wait.at_ j h1)
    · exact Or.inr ⟨h1, (ho.lt j hj).2⟩
  · rintro j (hj | rfl) _ e
    · exact h.two j hj e
    · exact absurd ((h.seen.row.ty _ e).one h.blk.ty) (by decide)
  · intro j hj e
    rcases hv j hj with h1 | h1
    · exact h.two j h1 e
    · have := (h.seen.row.lt j e).2
      omega
  · rintro j (hj | hj)
    · exact Or.inl hj
    · exact Or.inr hj.1
/-- What was seen is other touches, likewise. -/
theorem Dm.sees {U : Nat → Prop} {w w' : World} {d r : Nat} {D : DskS} {M : Mm} (h : Dm U w d r D M) {L : List Tch} {a : Option Addr} {n c : Nat} (k : Kp (fun j => (Value.slice M.sa M.sn M.sc).ownBlock = some j ∨ j = d) w w') (hb : Blk w' d (hc r { D with seen := L } { M with sa := a, sn := n, sc := c }) 91)
    (ho : OwS (elT fun j => U j ∨ (w.heap.size ≤ j ∧ j < w'.heap.size)) 3 114 w' 0 (.slice a n c) L) (hv : ∀ j, (Value.slice a n c).ownBlock = some j → (Value.slice M.sa M.sn M.sc).ownBlock = some j ∨ w.heap.size ≤ j) (hl3 : ∀ t ∈ L, t.2.2.length ≤ 512) :
    Dm (fun j => U j ∨ (w.heap.size ≤ j ∧ j < w'.heap.size)) w' d r { D with seen := L } { M with sa := a, sn := n, sc := c } ∧ Next w U (fun j => U j ∨ (w.heap.size ≤ j ∧ j < w'.heap.size)) ∧ Kp (Wr U w) w w' := by
  have hT : ∀ j, ((Value.slice M.sa M.sn M.sc).ownBlock = some j ∨ j = d) → U j ∧ (Ty w j 114 ∨ Ty w j 91) := by
    rintro j (hj | rfl)
    · exact ⟨h.seen.at_ j hj, Or.inl (h.seen.row.ty j hj)⟩
    · exact ⟨h.inD, Or.inr h.blk.ty⟩
  have h5 : ∀ j, ((Value.slice M.sa M.sn M.sc).ownBlock = some j ∨ j = d) → ¬ Ty w j 5 := fun j hj ht => by
    rcases (hT j hj).2 with h1 | h1
    · exact absurd (ht.one h1) (by decide)
    · exact absurd (ht.one h1) (by decide)
  have s : Sp U (fun j => U j ∨ (w.heap.size ≤ j ∧ j < w'.heap.size)) (fun j => (Value.slice M.sa M.sn M.sc).ownBlock = some j ∨ j = d) w w' := ⟨k, fun j ht _ => h5 j ht, fun _ hu => Or.inl hu⟩
  obtain ⟨p1, p2, p3⟩ := h.pp s fun j ht _ => (hT j ht).2
  refine ⟨⟨?_, Or.inl h.inD, Or.inl h.inR, hb, p3, p1, h.wait.turn s ?_, ⟨ho, fun j hj => ?_⟩, ?_, p2, h.maps, h.len1, h.len2, hl3⟩, ?_, k.mono fun j _ hj => ⟨(hT j hj).1, h5 j hj⟩⟩
  · rintro j (hj | hj)
    · exact Nat.lt_of_lt_of_le (h.lt j hj) k.size
    · exact hj.2
  · rintro j (hj | rfl) _ e
    · exact h.two j e hj
    · exact absurd ((h.wait.row.ty _ e).one h.blk.ty) (by decide)
  · rcases hv j hj with h1 | h1
    · exact Or.inl (h.seen.at_ j h1)
    · exact Or.inr ⟨h1, (ho.lt j hj).2⟩
  · intro j e hj
    rcases hv j hj with h1 | h1
    · exact h.two j e h1
    · have := (h.wait.row.lt j e).2
      omega
  · rintro j (hj | hj)
    · exact Or.inl hj
    · exact Or.inr hj.1
theorem fit_bytes {U : Nat → Prop} {w : World} {d r : Nat} {D : DskS} {M : Mm} (h : Dm U w d r D M) (x : Pok) : (x.kind = 2 → fitB (D.bytesOf x) = D.ago x.at_ x.num.toNat) ∧ (x.kind = 1 → fitB (D.bytesOf x) = D.look x.num) ∧ (x.kind = 0 → fitB (D.bytesOf x) = fitB x.bytes) := by
  unfold DskS.bytesOf
  refine ⟨fun e => ?_, fun e => ?_, fun e => ?_⟩
  · rw [if_pos e, fit_same (h.ago_len _ _)]
  · rw [if_neg (by omega), if_pos e, fit_same (h.look_len _)]
  · rw [if_neg (by omega), if_neg (by omega)]
/-- What poked answers. -/
def Pkd (U : Nat → Prop) (w : World) (D : DskS) (x : Pok) (p : Option Addr) (m q : Nat) (w' : World) : Prop := D.idle x ∨ B5 (fun j => U j ∨ w.heap.size ≤ j) w' p m q (fitB (D.bytesOf x))
set_option maxRecDepth 100000 in
set_option maxHeartbeats 4000000 in
theorem oPoked (w : World) {U : Nat → Prop} {d r : Nat} {D : DskS} {M : Mm} (h : Dm U w d r D M) (hz : D.safe.length ≤ 1000000) (hz2 : D.loose.length ≤ 1000000) (x : Pok) (hin : 0 ≤ x.at_ ∧ x.at_ < D.n) {xp : Option Addr} {xm xc : Nat} (hb : Bs w xp xm xc x.bytes) (hm : xm ≤ 100000) (hx : i64 x.on ∧ i64 x.at_ ∧ i64 x.kind ∧ i64 x.num) :
    Calls Tryz.prog 52 #[.pointer (some ⟨d, 0, none⟩), xv x xp xm xc] w fun e w' => ∃ p m q, e = .returned (.tuple #[.slice p m q, .bool (!decide (D.idle x))]) ∧ Pkd U w D x p m q w' ∧ Below w.heap.size w w' := by
  have hfb := fit_bytes h x
  obtain ⟨on, at_, kind, bytes, num⟩ := x
  dsimp only at hin hb hx hfb
  obtain ⟨x1, x2, x3, x4⟩ := hx
  unfold i64 at x1 x2 x3 x4
  unfold xv
  dsimp only
  obtain ⟨I, hI⟩ : ∃ I : Bool, I = !decide (D.idle ⟨on, at_, kind, bytes, num⟩) := ⟨_, rfl⟩
  rw [← hI]
  have hid : D.idle ⟨on, at_, kind, bytes, num⟩ ↔ (kind < 0 ∨ 2 < kind ∨ (0 < kind ∧ num < 0) ∨ (kind = 1 ∧ D.n ≤ num)) := by
    unfold DskS.idle
    dsimp only
    constructor
    · rintro (h | h | h)
      · omega
      · omega
      · exact h
    · exact fun h => Or.inr (Or.inr h)
  have k1 : Below w.heap.size w (w.alloc (.cells #[.int .i64 on, .int .i64 at_, .int .i64 kind, .slice xp xm xc, .int .i64 num] 28)) := below_alloc _ _
  have b1 : Blk (w.alloc (.cells #[.int .i64 on, .int .i64 at_, .int .i64 kind, .slice xp xm xc, .int .i64 num] 28)) w.heap.size [.int .i64 on, .int .i64 at_, .int .i64 kind, .slice xp xm xc, .int .i64 num] 28 := Blk.newAt w _ _ w.heap.size rfl _ rfl
  have h1 := h.below k1
  have y1 : (w.alloc (.cells #[.int .i64 on, .int .i64 at_, .int .i64 kind, .slice xp xm xc, .int .i64 num] 28)).cell? ⟨w.heap.size, 1, none⟩ = some (.int .i64 at_) := b1.cell 1
  have y2 : (w.alloc (.cells #[.int .i64 on, .int .i64 at_, .int .i64 kind, .slice xp xm xc, .int .i64 num] 28)).cell? ⟨w.heap.size, 2, none⟩ = some (.int .i64 kind) := b1.cell 2
  have y3 : (w.alloc (.cells #[.int .i64 on, .int .i64 at_, .int .i64 kind, .slice xp xm xc, .int .i64 num] 28)).cell? ⟨w.heap.size, 3, none⟩ = some (.slice xp xm xc) := b1.cell 3
  have y4 : (w.alloc (.cells #[.int .i64 on, .int .i64 at_, .int .i64 kind, .slice xp xm xc, .int .i64 num] 28)).cell? ⟨w.heap.size, 4, none⟩ = some (.int .i64 num) := b1.cell 4
  have l1 := b1.lt
  have HU : Hid (∀ j, (U j ∨ (w.alloc (.cells #[.int .i64 on, .int .i64 at_, .int .i64 kind, .slice xp xm xc, .int .i64 num] 28)).heap.size ≤ j) → (U j ∨ w.heap.size ≤ j)) := fun j hj => hj.imp id fun h => Nat.le_trans k1.size h
  have HK1 : Hid (Below w.heap.size w (w.alloc (.cells #[.int .i64 on, .int .i64 at_, .int .i64 kind, .slice xp xm xc, .int .i64 num] 28))) := k1
  by_cases h0 : kind = 0
  · subst h0
    have HI : Hid (I = true) := by show _ = _; rw [hI, decide_eq_false (fun hh => by have := hid.1 hh; omega)]; rfl
    have HB : Hid (fitB (D.bytesOf ⟨on, at_, 0, bytes, num⟩) = fitB bytes) := hfb.2.2 rfl
    have CF := oFill (w.alloc (.cells #[.int .i64 on, .int .i64 at_, .int .i64 0, .slice xp xm xc, .int .i64 num] 28)) (hb.below k1 (Nat.le_refl _)) hm
    clear hI hid h h1 hb hfb b1 k1 x1 x2 x3 x4 hin
    go_enter Tryz.func52, Tryz.ntmps52
    go_wp2_with fail
    refine CF.mono ?_
    rintro e w2 ⟨a3, m3, c3, rfl, o3, hb3⟩
    clear CF y1 y2 y3 y4 l1
    go_wp2_with fail
    go_ret2
    exact ⟨a3, m3, c3, by rw [HI.out]; rfl, Or.inr (by rw [HB.out]; exact (o3.b5 (A := fun j => w.heap.size ≤ j) (fun j hj _ => Nat.le_trans HK1.out.size hj)).mono fun j _ hj => Or.inr hj), HK1.out.trans (hb3.mono HK1.out.size)⟩
  · by_cases h1k : kind = 1
    · subst h1k
      have Y4 : ∀ u, Grows (w.alloc (.cells #[.int .i64 on, .int .i64 at_, .int .i64 1, .slice xp xm xc, .int .i64 num] 28)) u → u.cell? ⟨w.heap.size, 4, none⟩ = some (.int .i64 num) := fun u hu => (b1.below hu b1.lt).cell 4
      have HBK : Hid (∀ u, Grows (w.alloc (.cells #[.int .i64 on, .int .i64 at_, .int .i64 1, .slice xp xm xc, .int .i64 num] 28)) u → Blk u d (hc r D M) 91) := fun u hu => (h1.below hu).blk
      by_cases hn : 0 ≤ num ∧ num < D.n
      · have HI : Hid (I = true) := by show _ = _; rw [hI, decide_eq_false (fun hh => by have := hid.1 hh; omega)]; rfl
        have HB : Hid (fitB (D.bytesOf ⟨on, at_, 1, bytes, num⟩) = D.look num) := hfb.2.1 rfl
        have HD : Hid (decide (0 ≤ num ∧ num < D.n) = true) := decide_eq_true hn
        have HLK : Hid (∀ u, Grows (w.alloc (.cells #[.int .i64 on, .int .i64 at_, .int .i64 1, .slice xp xm xc, .int .i64 num] 28)) u → Calls Tryz.prog 30 #[.pointer (some ⟨d, 0, none⟩), .int .i64 num] u (Gives u (D.look num))) := fun u hu => oLookIn u (h1.below hu) hz hz2 num hn
        clear hI hid h h1 hb hfb b1 k1 x1 x2 x3 x4 hin hn hz hz2 y1 y3 h0
        go_enter Tryz.func52, Tryz.ntmps52
        go_wp2_with fail
        refine regionG (S := Grows (w.alloc (.cells #[.int .i64 on, .int .i64 at_, .int .i64 1, .slice xp xm xc, .int .i64 num] 28))) (by kernel_rfl) (Below.refl _ (w.alloc (.cells #[.int .i64 on, .int .i64 at_, .int .i64 1, .slice xp xm xc, .int .i64 num] 28))).drew ?_
        refine takeG 0 (some 15) (.pointer (some ⟨d, 0, none⟩)) rfl rfl (by kernel_rfl) (by kernel_rfl) (by kernel_rfl) (fun _ _ _ h => h) (ans_plain (by rfl) (fun w _ => rfl)) ?_
        simp only [Act.put, List.setIfInBounds_toArray, List.set_cons_zero, List.set_cons_succ]
        refine takeG 1 (some 16) (.pointer (some ⟨w.heap.size, 4, none⟩)) rfl rfl (by kernel_rfl) (by kernel_rfl) (by kernel_rfl) (fun _ _ _ h => h) (ans_plain (by rfl) (fun w _ => by unfold execOp; go_simp)) ?_
        simp only [Act.put, List.setIfInBounds_toArray, List.set_cons_zero, List.set_cons_succ]
        refine takeG 2 (some 17) (.int .i64 num) rfl rfl (by kernel_rfl) (by kernel_rfl) (by kernel_rfl) (fun _ _ _ h => h) (ans_plain (by rfl) (fun w h => by have hc := Y4 w h; unfold execOp; go_simp)) ?_
        simp only [Act.put, List.setIfInBounds_toArray, List.set_cons_zero, List.set_cons_succ]
        refine takeG 4 (some 19) (.pointer (some ⟨d, 0, none⟩)) rfl rfl (by kernel_rfl) (by kernel_rfl) (by kernel_rfl) (fun _ _ _ h => h) (ans_plain (by rfl) (fun w _ => rfl)) ?_
        simp only [Act.put, List.setIfInBounds_toArray, List.set_cons_zero, List.set_cons_succ]
        refine takeG 5 (some 20) (.pointer (some ⟨w.heap.size, 4, none⟩)) rfl rfl (by kernel_rfl) (by kernel_rfl) (by kernel_rfl) (fun _ _ _ h => h) (ans_plain (by rfl) (fun w _ => by unfold execOp; go_simp)) ?_
        simp only [Act.put, List.setIfInBounds_toArray, List.set_cons_zero, List.set_cons_succ]
        refine takeG 6 (some 21) (.int .i64 num) rfl rfl (by kernel_rfl) (by kernel_rfl) (by kernel_rfl) (fun _ _ _ h => h) (ans_plain (by rfl) (fun w h => by have hc := Y4 w h; unfold execOp; go_simp)) ?_
        simp only [Act.put, List.setIfInBounds_toArray, List.set_cons_zero, List.set_cons_succ]
        refine callG 3 (some 18) 30 #[.tmp 15, .tmp 17] #[31, 3] #[.pointer (some ⟨d, 0, none⟩), .int .i64 num] rfl rfl rfl (by rfl) (by rfl) (by kernel_rfl) Tryz.call30 fun u1 hg1 hs1 => ?_
        refine (HLK.out u1 hs1).mono ?_
        rintro e u2 ⟨a3, m3, c3, rfl, o3, hb3⟩
        refine ⟨_, rfl, Grows.trans hs1 hb3, ?_⟩
        simp only [Act.put, List.setIfInBounds_toArray, List.set_cons_zero, List.set_cons_succ]
        refine takeG 7 (some 22) (.bool (decide (0 ≤ num ∧ num < D.n))) rfl rfl (by kernel_rfl) (by kernel_rfl) (by kernel_rfl) (fun _ _ _ h => h) (ans_fn 51 #[.tmp 19, .tmp 21] #[31, 3] #[.pointer (some ⟨d, 0, none⟩), .int .i64 num] rfl (by rfl) (by rfl) Tryz.call51 fun u hu => (oHas u (HBK.out u hu) num).mono fun e u' ⟨he, hw⟩ => ⟨he, by rw [hw]; exact Below.refl _ _⟩) ?_
        simp only [Act.put, List.setIfInBounds_toArray, List.set_cons_zero, List.set_cons_succ]
        rw [HD.out]
        refine takeG 8 (some 4) (.slice a3 m3 c3) rfl rfl (by kernel_rfl) (by kernel_rfl) (by kernel_rfl) (fun _ _ _ h => h) (ans_plain (by rfl) (fun w _ => by unfold execOp; go_simp)) ?_
        simp only [Act.put, List.setIfInBounds_toArray, List.set_cons_zero, List.set_cons_succ]
        refine takeG 9 (some 5) (.bool true) rfl rfl (by kernel_rfl) (by kernel_rfl) (by kernel_rfl) (fun _ _ _ h => h) (ans_plain (by rfl) (fun w _ => by unfold execOp; go_simp)) ?_
        simp only [Act.put, List.setIfInBounds_toArray, List.set_cons_zero, List.set_cons_succ]
        refine doneG (by kernel_rfl) fun u5 hg5 hs5 => ?_
        have kk : Below (w.alloc (.cells #[.int .i64 on, .int .i64 at_, .int .i64 1, .slice xp xm xc, .int .i64 num] 28)).heap.size (w.alloc (.cells #[.int .i64 on, .int .i64 at_, .int .i64 1, .slice xp xm xc, .int .i64 num] 28)) u5 := hs5
        have HO : Hid (Own u5 u1.heap.size (.slice a3 m3 c3) (D.look num)) := o3.below hg5 (Nat.le_refl _)
        have HS1 : Hid (w.heap.size ≤ u1.heap.size) := Nat.le_trans HK1.out.size (Below.size hs1)
        have HK5 : Hid (Below w.heap.size w u5) := HK1.out.trans (kk.mono HK1.out.size)
        clear kk o3 hb3 hs1 hg1 hg5 hs5 Y4 y2 y4 l1 HLK HBK HD
        go_wp2_with fail
        go_ret2
        exact ⟨a3, m3, c3, by rw [HI.out]; rfl, Or.inr (by rw [HB.out]; exact (HO.out.b5 (A := fun j => w.heap.size ≤ j) (fun j hj _ => Nat.le_trans HS1.out hj)).mono fun j _ hj => Or.inr hj), HK5.out⟩
      · have HI : Hid (I = false) := by show _ = _; rw [hI, decide_eq_true (hid.2 (by omega))]; rfl
        have HP : Hid (D.idle ⟨on, at_, 1, bytes, num⟩) := hid.2 (by omega)
        have HD : Hid (decide (0 ≤ num ∧ num < D.n) = false) := decide_eq_false hn
        have HLK : Hid (∀ u, Grows (w.alloc (.cells #[.int .i64 on, .int .i64 at_, .int .i64 1, .slice xp xm xc, .int .i64 num] 28)) u → Calls Tryz.prog 30 #[.pointer (some ⟨d, 0, none⟩), .int .i64 num] u fun e w' => e = .returned (.slice none 0 0) ∧ w' = u) := fun u hu => oLookOut u (h1.below hu).blk num hn
        clear hI hid h h1 hb hfb b1 k1 x1 x2 x3 x4 hin hn hz hz2 y1 y3 h0
        go_enter Tryz.func52, Tryz.ntmps52
        go_wp2_with fail
        refine regionG (S := Grows (w.alloc (.cells #[.int .i64 on, .int .i64 at_, .int .i64 1, .slice xp xm xc, .int .i64 num] 28))) (by kernel_rfl) (Below.refl _ (w.alloc (.cells #[.int .i64 on, .int .i64 at_, .int .i64 1, .slice xp xm xc, .int .i64 num] 28))).drew ?_
        refine takeG 0 (some 15) (.pointer (some ⟨d, 0, none⟩)) rfl rfl (by kernel_rfl) (by kernel_rfl) (by kernel_rfl) (fun _ _ _ h => h) (ans_plain (by rfl) (fun w _ => rfl)) ?_
        simp only [Act.put, List.setIfInBounds_toArray, List.set_cons_zero, List.set_cons_succ]
        refine takeG 1 (some 16) (.pointer (some ⟨w.heap.size, 4, none⟩)) rfl rfl (by kernel_rfl) (by kernel_rfl) (by kernel_rfl) (fun _ _ _ h => h) (ans_plain (by rfl) (fun w _ => by unfold execOp; go_simp)) ?_
        simp only [Act.put, List.setIfInBounds_toArray, List.set_cons_zero, List.set_cons_succ]
        refine takeG 2 (some 17) (.int .i64 num) rfl rfl (by kernel_rfl) (by kernel_rfl) (by kernel_rfl) (fun _ _ _ h => h) (ans_plain (by rfl) (fun w h => by have hc := Y4 w h; unfold execOp; go_simp)) ?_
        simp only [Act.put, List.setIfInBounds_toArray, List.set_cons_zero, List.set_cons_succ]
        refine takeG 4 (some 19) (.pointer (some ⟨d, 0, none⟩)) rfl rfl (by kernel_rfl) (by kernel_rfl) (by kernel_rfl) (fun _ _ _ h => h) (ans_plain (by rfl) (fun w _ => rfl)) ?_
        simp only [Act.put, List.setIfInBounds_toArray, List.set_cons_zero, List.set_cons_succ]
        refine takeG 5 (some 20) (.pointer (some ⟨w.heap.size, 4, none⟩)) rfl rfl (by kernel_rfl) (by kernel_rfl) (by kernel_rfl) (fun _ _ _ h => h) (ans_plain (by rfl) (fun w _ => by unfold execOp; go_simp)) ?_
        simp only [Act.put, List.setIfInBounds_toArray, List.set_cons_zero, List.set_cons_succ]
        refine takeG 6 (some 21) (.int .i64 num) rfl rfl (by kernel_rfl) (by kernel_rfl) (by kernel_rfl) (fun _ _ _ h => h) (ans_plain (by rfl) (fun w h => by have hc := Y4 w h; unfold execOp; go_simp)) ?_
        simp only [Act.put, List.setIfInBounds_toArray, List.set_cons_zero, List.set_cons_succ]
        refine callG 3 (some 18) 30 #[.tmp 15, .tmp 17] #[31, 3] #[.pointer (some ⟨d, 0, none⟩), .int .i64 num] rfl rfl rfl (by rfl) (by rfl) (by kernel_rfl) Tryz.call30 fun u1 hg1 hs1 => ?_
        refine (HLK.out u1 hs1).mono ?_
        rintro e u2 ⟨rfl, rfl⟩
        refine ⟨_, rfl, hs1, ?_⟩
        simp only [Act.put, List.setIfInBounds_toArray, List.set_cons_zero, List.set_cons_succ]
        refine takeG 7 (some 22) (.bool (decide (0 ≤ num ∧ num < D.n))) rfl rfl (by kernel_rfl) (by kernel_rfl) (by kernel_rfl) (fun _ _ _ h => h) (ans_fn 51 #[.tmp 19, .tmp 21] #[31, 3] #[.pointer (some ⟨d, 0, none⟩), .int .i64 num] rfl (by rfl) (by rfl) Tryz.call51 fun u hu => (oHas u (HBK.out u hu) num).mono fun e u' ⟨he, hw⟩ => ⟨he, by rw [hw]; exact Below.refl _ _⟩) ?_
        simp only [Act.put, List.setIfInBounds_toArray, List.set_cons_zero, List.set_cons_succ]
        rw [HD.out]
        refine takeG 8 (some 4) (.slice none 0 0) rfl rfl (by kernel_rfl) (by kernel_rfl) (by kernel_rfl) (fun _ _ _ h => h) (ans_plain (by rfl) (fun w _ => by unfold execOp; go_simp)) ?_
        simp only [Act.put, List.setIfInBounds_toArray, List.set_cons_zero, List.set_cons_succ]
        refine takeG 9 (some 5) (.bool false) rfl rfl (by kernel_rfl) (by kernel_rfl) (by kernel_rfl) (fun _ _ _ h => h) (ans_plain (by rfl) (fun w _ => by unfold execOp; go_simp)) ?_
        simp only [Act.put, List.setIfInBounds_toArray, List.set_cons_zero, List.set_cons_succ]
        refine doneG (by kernel_rfl) fun u5 hg5 hs5 => ?_
        have kk : Below (w.alloc (.cells #[.int .i64 on, .int .i64 at_, .int .i64 1, .slice xp xm xc, .int .i64 num] 28)).heap.size (w.alloc (.cells #[.int .i64 on, .int .i64 at_, .int .i64 1, .slice xp xm xc, .int .i64 num] 28)) u5 := hs5
        have HK5 : Hid (Below w.heap.size w u5) := HK1.out.trans (kk.mono HK1.out.size)
        clear kk hs1 hg1 hg5 hs5 Y4 y2 y4 l1 HLK HBK HD
        go_wp2_with fail
        go_ret2
        exact ⟨none, 0, 0, by rw [HI.out]; rfl, Or.inl HP.out, HK5.out⟩
    · by_cases h2k : kind = 2
      · subst h2k
        by_cases hn : 0 ≤ num
        · have HI : Hid (I = true) := by show _ = _; rw [hI, decide_eq_false (fun hh => by have := hid.1 hh; omega)]; rfl
          have HB : Hid (fitB (D.bytesOf ⟨on, at_, 2, bytes, num⟩) = D.ago at_ num.toNat) := hfb.1 rfl
          obtain ⟨nn, rfl⟩ : ∃ nn : Nat, num = nn := ⟨num.toNat, by omega⟩
          rw [Int.toNat_natCast] at HB
          have CS := oSafe (w.alloc (.cells #[.int .i64 on, .int .i64 at_, .int .i64 2, .slice xp xm xc, .int .i64 (nn : Int)] 28)) h1 hz at_ nn (by omega)
          clear hI hid h h1 hb hfb b1 k1 x1 x2 x3 hin hz hz2 h0 h1k
          go_enter Tryz.func52, Tryz.ntmps52
          go_wp2_with fail
          refine CS.mono ?_
          rintro e w2 ⟨a3, m3, c3, rfl, o3, hb3⟩
          clear CS y1 y2 y3 y4 l1
          go_wp2_with fail
          go_ret2
          exact ⟨a3, m3, c3, by rw [HI.out]; rfl, Or.inr (by rw [HB.out]; exact o3.mono fun j _ hj => HU.out j hj), HK1.out.trans (hb3.mono HK1.out.size)⟩
        · have HI : Hid (I = false) := by show _ = _; rw [hI, decide_eq_true (hid.2 (by omega))]; rfl
          have HP : Hid (D.idle ⟨on, at_, 2, bytes, num⟩) := hid.2 (by omega)
          clear hI hid h h1 hb hfb b1 k1 x1 x2 x3 x4 hin h0 h1k hz hz2
          go_enter Tryz.func52, Tryz.ntmps52
          go_wp2_with fail
          go_ret2
          exact ⟨none, 0, 0, by rw [HI.out]; rfl, Or.inl HP.out, HK1.out⟩
      · have HI : Hid (I = false) := by show _ = _; rw [hI, decide_eq_true (hid.2 (by omega))]; rfl
        have HP : Hid (D.idle ⟨on, at_, kind, bytes, num⟩) := hid.2 (by omega)
        clear hI hid h h1 hb hfb b1 k1 x1 x2 x3 x4 hin hz hz2
        go_enter Tryz.func52, Tryz.ntmps52
        go_wp2_with fail
        go_ret2
        exact ⟨none, 0, 0, by rw [HI.out]; rfl, Or.inl HP.out, HK1.out⟩

end Go.Proofs.YtlenmkhmkommcaaGreat

/-
  The contract of layer 9's program's Poke. Conditions: lists of at most a million, bytes of at most 1000.
-/
namespace Go.Proofs.YtlenmkhmkommcaaGreat
open Go.RowKit
set_option linter.unusedVariables false

/-- What a call that writes leaves, the plot as it was. -/
def Dng (U : Nat → Prop) (w : World) (d r : Nat) (D : DskS) (g : Int → Option Value) (w' : World) : Prop := ∃ U' M', Dm U' w' d r D M' ∧ M'.g = g ∧ Next w U U' ∧ Kp (Wr U w) w w'
theorem Dng.dn {U : Nat → Prop} {w w' : World} {d r : Nat} {D : DskS} {g : Int → Option Value} (h : Dng U w d r D g w') : Dn U w d r D w' := by
  obtain ⟨U', M', hm, _, hn, hk⟩ := h
  exact ⟨U', M', hm, hn, hk⟩
theorem Dng.same {U : Nat → Prop} {w w' : World} {d r : Nat} {D : DskS} {M : Mm} (h : Dm U w d r D M) (k : Below w.heap.size w w') : Dng U w d r D M.g w' := ⟨U, M, h.below k, rfl, Next.refl _ _, Kp.of_below k⟩
theorem Dng.more {U U1 : Nat → Prop} {w w1 w2 : World} {d r : Nat} {D : DskS} {g : Int → Option Value} (k : Kp (Wr U w) w w1) (n : Next w U U1) (h : Dng U1 w1 d r D g w2) : Dng U w d r D g w2 := by
  obtain ⟨U', M', hm, hg, hn, hk⟩ := h
  exact ⟨U', M', hm, hg, n.trans hn k.size, k.wr n hk⟩
theorem filter_t3 (l : List Chg) (at_ : Int) : (l.map t3).filter (keepT at_) = (l.filter fun c => decide (c.1 ≠ at_)).map t3 := by
  rw [List.filter_map]
  rfl
/-- What waits has been deleted from. -/
theorem Dm.poke_mid {U : Nat → Prop} {w w3 : World} {d r : Nat} {D : DskS} {M : Mm} (h : Dm U w d r D M) {at_ : Int} {a : Option Addr} {n c : Nat} (k3 : Kp (fun j => (Value.slice M.wa M.wn M.wc).ownBlock = some j) w w3) (ho : OwS (elT U) 3 114 w3 0 (.slice a n c) ((D.loose.map t3).filter (keepT at_))) (hv : (Value.slice a n c).ownBlock = (Value.slice M.wa M.wn M.wc).ownBlock) :
    d < w3.heap.size ∧ w3.cell? ⟨d, 4, none⟩ = some (.slice M.wa M.wn M.wc) ∧ w3.frozen? ⟨d, 4, none⟩ = false ∧
    ∃ U4, Dm U4 (w3.setCell ⟨d, 4, none⟩ (.slice a n c)) d r { D with loose := D.loose.filter fun c => decide (c.1 ≠ at_) } { M with wa := a, wn := n, wc := c } ∧ Next w U U4 ∧ Kp (Wr U w) w (w3.setCell ⟨d, 4, none⟩ (.slice a n c)) ∧
      (∀ p m q b, B5 U w p m q b → B5 U4 (w3.setCell ⟨d, 4, none⟩ (.slice a n c)) p m q b) ∧ ∀ g vs t, Blk w g vs t → t ≠ 114 → t ≠ 91 → Blk (w3.setCell ⟨d, 4, none⟩ (.slice a n c)) g vs t := by
  have hdw : ¬ (Value.slice M.wa M.wn M.wc).ownBlock = some d := fun e => absurd ((h.wait.row.ty _ e).one h.blk.ty) (by decide)
  have b3 := k3.blk h.blk hdw
  have k4 := kp_set w3 d 4 (.slice a n c)
  have k : Kp (fun j => (Value.slice M.wa M.wn M.wc).ownBlock = some j ∨ j = d) w (w3.setCell ⟨d, 4, none⟩ (.slice a n c)) := (k3.mono fun j _ e => Or.inl e).trans (k4.mono fun j _ e => Or.inr e)
  have s4 : Sp U (fun j => U j ∨ (w.heap.size ≤ j ∧ j < (w3.setCell ⟨d, 4, none⟩ (.slice a n c)).heap.size)) (fun j => j = d) w3 (w3.setCell ⟨d, 4, none⟩ (.slice a n c)) := ⟨k4, fun j e _ ht => by subst e; exact absurd (ht.one b3.ty) (by decide), fun _ hu => Or.inl hu⟩
  have o4 : OwS (elT fun j => U j ∨ (w.heap.size ≤ j ∧ j < (w3.setCell ⟨d, 4, none⟩ (.slice a n c)).heap.size)) 3 114 (w3.setCell ⟨d, 4, none⟩ (.slice a n c)) 0 (.slice a n c) ((D.loose.filter fun c => decide (c.1 ≠ at_)).map t3) := by
    rw [← filter_t3]
    exact ho.turn s4.elT fun j hj => k4.block j (ho.lt j hj).2 fun e => by subst e; exact absurd ((ho.ty _ hj).one b3.ty) (by decide)
  obtain ⟨q1, q2, q3⟩ := h.waits (L := D.loose.filter fun c => decide (c.1 ≠ at_)) k (b3.setC 4 _) o4 (fun j hj => Or.inl (by rw [← hv]; exact hj)) (fun c hc => h.len2 c (List.mem_filter.1 hc).1)
  refine ⟨b3.lt, b3.cell 4, b3.free 4, _, q1, q2, q3, fun p m q b hb => ?_, fun g vs t hb h1 h2 => k.blk hb ?_⟩
  · refine (show Sp U (fun j => U j ∨ (w.heap.size ≤ j ∧ j < (w3.setCell ⟨d, 4, none⟩ (.slice a n c)).heap.size)) (fun j => (Value.slice M.wa M.wn M.wc).ownBlock = some j ∨ j = d) w (w3.setCell ⟨d, 4, none⟩ (.slice a n c)) from ⟨k, ?_, fun _ hu => Or.inl hu⟩).b5 hb
    rintro j (hj | rfl) _ ht
    · exact absurd (ht.one (h.wait.row.ty _ hj)) (by decide)
    · exact absurd (ht.one h.blk.ty) (by decide)
  · rintro (e | rfl)
    · exact h1 (hb.ty.one (h.wait.row.ty _ e))
    · exact h2 (hb.ty.one h.blk.ty)
theorem sizeQ5 : (Tryz.prog.info? 28).map (·.size) = some 5 := by kernel_rfl
theorem one28 (a b c : Int) (p : Option Addr) (m q : Nat) (e : Int) : ∀ v ∈ [Value.int .i64 a, .int .i64 b, .int .i64 c, .slice p m q, .int .i64 e], v.oneCell' = true := by
  intro v hv
  simp at hv
  rcases hv with rfl | rfl | rfl | rfl | rfl <;> rfl
set_option maxRecDepth 100000 in
set_option maxHeartbeats 4000000 in
theorem oPoke (w : World) {U : Nat → Prop} {d r : Nat} {D : DskS} {M : Mm} (h : Dm U w d r D M) (hz : D.safe.length + 1 ≤ 1000000) (hz2 : D.loose.length ≤ 1000000) (x : Pok) {xp : Option Addr} {xm xc : Nat} (hb : Bs w xp xm xc x.bytes) (hm : xm ≤ 100000) (hx : i64 x.on ∧ i64 x.at_ ∧ i64 x.kind ∧ i64 x.num) :
    Calls Tryz.prog 22 #[.pointer (some ⟨d, 0, none⟩), xv x xp xm xc] w fun e w' => e = .returned (.tuple #[]) ∧ Dng U w d r (D.poke x) M.g w' := by
  have k1 : Below w.heap.size w (w.alloc (.cells #[.int .i64 x.on, .int .i64 x.at_, .int .i64 x.kind, .slice xp xm xc, .int .i64 x.num] 28)) := below_alloc _ _
  have b1 : Blk (w.alloc (.cells #[.int .i64 x.on, .int .i64 x.at_, .int .i64 x.kind, .slice xp xm xc, .int .i64 x.num] 28)) w.heap.size [.int .i64 x.on, .int .i64 x.at_, .int .i64 x.kind, .slice xp xm xc, .int .i64 x.num] 28 := Blk.newAt w _ _ w.heap.size rfl _ rfl
  have h1 := h.below k1
  have hUl := h.lt
  have HS0 : Hid (∀ w', Below w.heap.size w w' → D.idle x → Dng U w d r (D.poke x) M.g w') := fun w' hb hi => by
    rw [show D.poke x = D from if_pos hi]
    exact Dng.same h hb
  obtain ⟨W1, hW1⟩ : ∃ W1, W1 = w.alloc (.cells #[.int .i64 x.on, .int .i64 x.at_, .int .i64 x.kind, .slice xp xm xc, .int .i64 x.num] 28) := ⟨_, rfl⟩
  have HW1 : Hid (W1 = w.alloc (.cells #[.int .i64 x.on, .int .i64 x.at_, .int .i64 x.kind, .slice xp xm xc, .int .i64 x.num] 28)) := hW1
  rw [← hW1] at k1 b1 h1
  have hsz : W1.heap.size = w.heap.size + 1 := by rw [hW1]; simp
  have HBs := hb.below k1 (Nat.le_refl _)
  have CH := oHas W1 h1.blk x.at_
  have CP : 0 ≤ x.at_ ∧ x.at_ < D.n → Calls Tryz.prog 52 #[.pointer (some ⟨d, 0, none⟩), xv x xp xm xc] W1 fun e w' => ∃ p m q, e = .returned (.tuple #[.slice p m q, .bool (!decide (D.idle x))]) ∧ Pkd U W1 D x p m q w' ∧ Below W1.heap.size W1 w' := fun hin => oPoked W1 h1 (by omega) hz2 x hin HBs hm hx
  have KEY : Hid (∀ w2 p m q, ¬ D.idle x → Pkd U W1 D x p m q w2 → Below W1.heap.size W1 w2 → ∃ U2, Dm U2 w2 d r D M ∧ B5 U2 w2 p m q (fitB (D.bytesOf x)) ∧ Next w U U2 ∧ Kp (Wr U w) w w2) := fun w2 p m q hni hp kb => by
    rcases hp with hp | hp
    · exact absurd hp hni
    · refine ⟨fun j => U j ∨ (W1.heap.size ≤ j ∧ j < w2.heap.size), (h1.below kb).up (fun _ hu => Or.inl hu) ?_, hp.mono fun j hj hu => hu.imp id fun hh => ⟨hh, hj⟩, ?_, Kp.of_below (k1.trans (kb.mono k1.size))⟩
      · rintro j (hj | hj)
        · exact Nat.lt_of_lt_of_le (h1.lt j hj) kb.size
        · exact hj.2
      · rintro j (hj | hj)
        · exact Or.inl hj
        · exact Or.inr (by have := k1.size; omega)
  have y1 : W1.cell? ⟨w.heap.size, 1, none⟩ = some (.int .i64 x.at_) := b1.cell 1
  have HFB : Hid ((fitB (D.bytesOf x)).length = 512) := fitB_length _
  have HZ : Hid (D.safe.length + 1 ≤ 1000000) := hz
  have HZ2 : Hid (D.loose.length ≤ 1000000) := hz2
  have HK1 : Hid (Below w.heap.size w W1) := k1
  have l1 := b1.lt
  have HMG : Hid (∀ f', ({ M with f := f' } : Mm).g = M.g) := fun _ => rfl
  have HPK : Hid (¬ D.idle x → ∀ L, L = (D.loose.filter fun c => decide (c.1 ≠ x.at_)) → ({ ({ D with loose := L } : DskS) with safe := D.safe ++ [(x.at_, fitB (D.bytesOf x))] } : DskS) = D.poke x) := fun hni L hL => by
    rw [hL]
    unfold DskS.poke
    rw [if_neg hni]
    rfl
  obtain ⟨on, at_, kind, bytes, num⟩ := x
  unfold xv at CP ⊢
  dsimp only at y1 b1 CH CP HW1 HPK ⊢
  by_cases hin : 0 ≤ at_ ∧ at_ < D.n
  · rw [decide_eq_true hin] at CH
    have CP2 := CP hin
    by_cases hid : D.idle ⟨on, at_, kind, bytes, num⟩
    · rw [decide_eq_true hid] at CP2
      have HS1 : Hid (∀ w', Below w.heap.size w w' → Dng U w d r (D.poke ⟨on, at_, kind, bytes, num⟩) M.g w') := fun w' hb => HS0.out w' hb hid
      clear CP KEY hid HS0 hin hb hx h h1 HBs hW1 hz hz2 hUl k1
      go_enter Tryz.func22, Tryz.ntmps22
      go_wp2_with fail
      rw [← HW1.out]
      go_wp2_with fail
      refine CH.mono ?_
      rintro e w' ⟨rfl, rfl⟩
      clear CH
      go_wp2_with ((with_reducible refine at_ld 28 ?_); (refine ld 28 (.tmp 3) 5 sizeQ5 _ Tryz.underlying28 rfl w.heap.size 0 [.int .i64 on, .int .i64 at_, .int .i64 kind, .slice xp xm xc, .int .i64 num] rfl b1.whole rfl ?_))
      refine CP2.mono ?_
      rintro e w2 ⟨p, m, q, rfl, hp, kb⟩
      have HF : Hid _ := HS1.out w2 (HK1.out.trans (kb.mono HK1.out.size))
      clear hp kb CP2 b1 y1 l1 HS1
      go_wp2_with fail
      (try simp only [Exit.inBlock, Exit.then]); refine bodyPost_ret (results_none rfl _ _ _) rfl ?_
      exact ⟨rfl, HF.out⟩
    · rw [decide_eq_false hid] at CP2
      have KEY2 : Hid (∀ w2 p m q, Pkd U W1 D ⟨on, at_, kind, bytes, num⟩ p m q w2 → Below W1.heap.size W1 w2 → ∃ U2, Dm U2 w2 d r D M ∧ B5 U2 w2 p m q (fitB (D.bytesOf ⟨on, at_, kind, bytes, num⟩)) ∧ Next w U U2 ∧ Kp (Wr U w) w w2) := fun w2 p m q => KEY.out w2 p m q hid
      have HPK2 : Hid (({ ({ D with loose := D.loose.filter fun c => decide (c.1 ≠ at_) } : DskS) with safe := D.safe ++ [(at_, fitB (D.bytesOf ⟨on, at_, kind, bytes, num⟩))] } : DskS) = D.poke ⟨on, at_, kind, bytes, num⟩) := HPK.out hid _ rfl
      clear CP KEY hid HS0 hin hb hx h h1 HBs hW1 hz hz2 hUl k1 HPK
      go_enter Tryz.func22, Tryz.ntmps22
      go_wp2_with fail
      rw [← HW1.out]
      go_wp2_with fail
      refine CH.mono ?_
      rintro e w' ⟨rfl, rfl⟩
      clear CH
      go_wp2_with ((with_reducible refine at_ld 28 ?_); (refine ld 28 (.tmp 3) 5 sizeQ5 _ Tryz.underlying28 rfl w.heap.size 0 [.int .i64 on, .int .i64 at_, .int .i64 kind, .slice xp xm xc, .int .i64 num] rfl b1.whole rfl ?_))
      refine CP2.mono ?_
      rintro e w2 ⟨p, m, q, rfl, hp, kb⟩
      obtain ⟨U2, h2, hB2, hN2, hK2⟩ := KEY2.out w2 p m q hp kb
      have b2 := b1.below kb b1.lt
      have hl2 := h2.blk.lt
      have c4 : w2.cell? ⟨d, 4, none⟩ = some (.slice M.wa M.wn M.wc) := h2.blk.cell 4
      have CD := oDelete w2 h2.wait.row (by rw [← h2.wlen]; exact HZ2.out) b2
      have MID : Hid (∀ w3 a n c, Kp (fun j => (Value.slice M.wa M.wn M.wc).ownBlock = some j) w2 w3 → OwS (elT U2) 3 114 w3 0 (.slice a n c) ((D.loose.map t3).filter (keepT at_)) → (Value.slice a n c).ownBlock = (Value.slice M.wa M.wn M.wc).ownBlock → _) := fun w3 a n c k3 ho hv => h2.poke_mid k3 ho hv
      have HB2 : Hid (B5 U2 w2 p m q (fitB (D.bytesOf ⟨on, at_, kind, bytes, num⟩))) := hB2
      clear hp kb CP2 y1 l1 KEY2 h2 hB2 b1
      go_wp2_with fail
      refine CD.mono ?_
      rintro e w3 ⟨a3, n3, c3, rfl, o3, hv3, k3⟩
      obtain ⟨l3, z3, f3, U4, h4, hN4, hK4, hB4, hK28⟩ := MID.out w3 a3 n3 c3 k3 o3 hv3
      have b4 := hK28 _ _ _ b2 (by decide) (by decide)
      have y4 : (w3.setCell ⟨d, 4, none⟩ (.slice a3 n3 c3)).cell? ⟨w.heap.size, 1, none⟩ = some (.int .i64 at_) := b4.cell 1
      have l4 := b4.lt
      have CC := oChange _ h4 HZ.out at_ (hB4 _ _ _ _ HB2.out) HFB.out
      have FIN : Hid (∀ w5, (∃ U' f', Dm U' w5 d r { ({ D with loose := D.loose.filter fun c => decide (c.1 ≠ at_) } : DskS) with safe := D.safe ++ [(at_, fitB (D.bytesOf ⟨on, at_, kind, bytes, num⟩))] } { ({ M with wa := a3, wn := n3, wc := c3 } : Mm) with f := f' } ∧ Next (w3.setCell ⟨d, 4, none⟩ (.slice a3 n3 c3)) U4 U' ∧ Kp (Wr U4 (w3.setCell ⟨d, 4, none⟩ (.slice a3 n3 c3))) (w3.setCell ⟨d, 4, none⟩ (.slice a3 n3 c3)) w5) → Dng U w d r (D.poke ⟨on, at_, kind, bytes, num⟩) M.g w5) := fun w5 ⟨U', f', hm, hn, hk⟩ => by
        rw [← HPK2.out]
        exact Dng.more hK2 hN2 (Dng.more hK4 hN4 ⟨U', _, hm, rfl, hn, hk⟩)
      clear CD MID HB2 h4 hN4 hK4 hB4 hK28 b2 b4 c4 hl2 hN2 hK2 o3 hv3 k3 HPK2
      go_wp2_with fail
      refine CC.mono ?_
      rintro e w5 ⟨rfl, h5⟩
      have HF : Hid _ := FIN.out w5 h5
      clear CC FIN h5 y4 l4 l3 z3 f3
      go_wp2_with fail
      go_end0
      exact ⟨rfl, HF.out⟩
  · rw [decide_eq_false hin] at CH
    have HF : Hid (Dng U w d r (D.poke ⟨on, at_, kind, bytes, num⟩) M.g W1) := HS0.out W1 k1 (by unfold DskS.idle; dsimp only; omega)
    clear CP KEY HS0 hin hb hx h h1 HBs hW1 hz hz2 hUl k1 HPK
    go_enter Tryz.func22, Tryz.ntmps22
    go_wp2_with fail
    rw [← HW1.out]
    go_wp2_with fail
    refine CH.mono ?_
    rintro e w' ⟨rfl, rfl⟩
    clear CH
    go_wp2_with fail
    (try simp only [Exit.inBlock, Exit.then]); refine bodyPost_ret (results_none rfl _ _ _) rfl ?_
    exact ⟨rfl, HF.out⟩

end Go.Proofs.YtlenmkhmkommcaaGreat

/-
  The contract of layer 9's program's pokeAhead: what somebody else does ahead of a step. Conditions: lists of at most a million.
-/
namespace Go.Proofs.YtlenmkhmkommcaaGreat
open Go.RowKit
open Go.MapKept (IsKey run_checkKey run_findKey run_setObj_map heap_set)
set_option linter.unusedVariables false

theorem cut_poke (D : DskS) (x : Pok) : D.poke (cutP x) = D.poke x := by
  have hi : D.idle (cutP x) ↔ D.idle x := Iff.rfl
  have hb : fitB (D.bytesOf (cutP x)) = fitB (D.bytesOf x) := by
    unfold DskS.bytesOf cutP
    dsimp only
    split
    · rfl
    · split
      · rfl
      · exact fit_cut _
  unfold DskS.poke
  by_cases h : D.idle x
  · rw [if_pos h, if_pos (hi.2 h)]
  · rw [if_neg h, if_neg (fun hh => h (hi.1 hh))]
    unfold DskS.settle
    rw [hb]
    rfl
/-- One behind the other. -/
def DskS.pokeL (D : DskS) (l : List Pok) : DskS := l.foldl (fun D x => D.poke x) D
theorem pokeL_snoc (D : DskS) (l : List Pok) (x : Pok) : D.pokeL (l ++ [x]) = (D.pokeL l).poke x := by unfold DskS.pokeL; rw [List.foldl_append]; rfl
theorem pokes_eq (s : Nat) : ∀ (l : List Pok) (D : DskS), D.pokeL (plotL l (s : Int)) = D.pokes s l
  | [], D => rfl
  | x :: l, D => by
    have e : D.pokes s (x :: l) = (if x.on = (s : Int) then D.poke x else D).pokes s l := rfl
    rw [e]
    by_cases h : x.on = (s : Int)
    · rw [if_pos h, ← pokes_eq s l, show plotL (x :: l) (s : Int) = cutP x :: plotL l (s : Int) from by simp [plotL, h]]
      show (D.poke (cutP x)).pokeL _ = _
      rw [cut_poke]
    · rw [if_neg h, ← pokes_eq s l, show plotL (x :: l) (s : Int) = plotL l (s : Int) from by simp [plotL, h]]
theorem pokeL_len : ∀ (l : List Pok) (D : DskS), (D.pokeL l).safe.length ≤ D.safe.length + l.length ∧ (D.pokeL l).loose.length ≤ D.loose.length ∧ (D.pokeL l).p = D.p ∧ (D.pokeL l).steps = D.steps ∧ (D.pokeL l).n = D.n ∧ (D.pokeL l).seen = D.seen ∧ (D.pokeL l).plot = D.plot
  | [], D => ⟨by simp [DskS.pokeL], Nat.le_refl _, rfl, rfl, rfl, rfl, rfl⟩
  | x :: l, D => by
    have e : D.pokeL (x :: l) = (D.poke x).pokeL l := rfl
    rw [e]
    obtain ⟨a1, a2, a3, a4, a5, a6, a7⟩ := pokeL_len l (D.poke x)
    obtain ⟨b1, b2, b3, b4, b5, b6, b7⟩ := poke_len D x
    rw [List.length_cons]
    exact ⟨by omega, by omega, a3.trans b3, a4.trans b4, a5.trans b5, a6.trans b6, a7.trans b7⟩
theorem plotL_mem {l : List Pok} {k : Int} {x : Pok} (h : x ∈ plotL l k) : x.bytes.length ≤ 512 := by
  unfold plotL at h
  obtain ⟨y, _, rfl⟩ := List.mem_map.1 h
  exact List.length_take_le _ _
theorem plotL_len (l : List Pok) (k : Int) : (plotL l k).length ≤ l.length := by
  unfold plotL
  rw [List.length_map]
  exact List.length_filter_le _ _
/-- Asked what somebody else does, be there a map or none. -/
theorem Dm.plotLook {U : Nat → Prop} {w : World} {d r : Nat} {D : DskS} {M : Mm} (h : Dm U w d r D M) (k : Int) : (Instr.lookup 89 (.map M.mq) (.int .i64 k) false).run Tryz.prog w = .ok ((M.g k).getD nilV) w := by
  cases hq : M.mq with
  | none =>
    rw [h.plot.no hq k]
    have hk : IsKey (.int .i64) (.int .i64 k) := by simp [IsKey]
    simp [Instr.lookup, run_underlying underQ, run_checkKey under3 hk, run_findKey under3 (show Instr.findNow (.int .i64) (.int .i64 k) [] 0 = some none from rfl), Result.andThen]
    rfl
  | some m => exact (h.plot.map m hq).1.look underQ under3 (zeroQ w) k
theorem ans_lookR {ops : Array Oper} {S : World → Prop} {oi : Oper} {a : Act} (x y : Operand) (T : TypeId) (ho : oi.op = Op.lookup T x y false) (hw : Region.wanted oi (yielded ops a.tmps) = true) (mv kv v : Value) (hx : a.eval x = mv) (hy : a.eval y = kv) (h : ∀ w, S w → (Instr.lookup T mv kv false).run Tryz.prog w = .ok v w) : Ans Tryz.prog ops S oi v a :=
  ans_plain hw fun w hs => by simp [execOp, ho, hx, hy, h w hs, Result.andThen]
theorem OwS.pokeAt {A : Nat → Prop} {w : World} {base : Nat} {a : Option Addr} {n c : Nat} {l : List Pok} (h : OwS (elQ A) 5 28 w base (.slice a n c) l) {i : Nat} {x : Pok} (hx : l[i]? = some x) : ∃ b o p m q, a = some ⟨b, o, none⟩ ∧ b < w.heap.size ∧ w.rangeAt b (o + i * 5) [.int .i64 x.on, .int .i64 x.at_, .int .i64 x.kind, .slice p m q, .int .i64 x.num] ∧ B5 A w p m q x.bytes ∧ i64 x.on ∧ i64 x.at_ ∧ i64 x.kind ∧ i64 x.num := by
  obtain ⟨b, o, vs, ha, hlt, hr, hl, p, m, q, rfl, hb, hi⟩ := (h.sl3 (A := fun _ => True) (fun _ _ _ => trivial)).at hx
  exact ⟨b, o, p, m, q, ha, hlt, hr, hb, hi⟩
theorem Lq.elem {U : Nat → Prop} {w wr : World} {d r : Nat} {D : DskS} {g : Int → Option Value} {L : List Pok} {k : Nat} (hL : L = plotL D.plot (D.steps : Int)) (h : Dng U w d r (D.pokeL (L.take k)) g wr) {a : Option Addr} {n c : Nat} (hv : (g (D.steps : Int)).getD nilV = .slice a n c) (hz : D.safe.length + D.plot.length + 1 ≤ 1000000) (hz2 : D.loose.length ≤ 1000000) {x : Pok} (hx : L[k]? = some x) :
    ∃ b o p m q, a = some ⟨b, o, none⟩ ∧ b < wr.heap.size ∧ wr.rangeAt b (o + k * 5) [.int .i64 x.on, .int .i64 x.at_, .int .i64 x.kind, .slice p m q, .int .i64 x.num] ∧ ∀ v3, Below wr.heap.size wr v3 → Calls Tryz.prog 22 #[.pointer (some ⟨d, 0, none⟩), xv x p m q] v3 fun e w' => e = .returned (.tuple #[]) ∧ Dng U w d r (D.pokeL (L.take (k + 1))) g w' := by
  obtain ⟨U', M', hm, hg, hn, hk⟩ := h
  obtain ⟨a1, a2, a3, a4, a5, a6, a7⟩ := pokeL_len (L.take k) D
  have hrow := hm.plot.row (D.steps : Int) (by rw [a4]; omega)
  rw [a7, hg, hv, ← hL] at hrow
  obtain ⟨b, o, p, m, q, ha, hlt, hrg, h5, hi⟩ := hrow.pokeAt hx
  refine ⟨b, o, p, m, q, ha, hlt, hrg, fun v3 hb3 => ?_⟩
  have hxl := plotL_mem (by rw [← hL]; exact List.mem_of_getElem? hx : x ∈ plotL D.plot (D.steps : Int))
  have hLl := plotL_len D.plot (D.steps : Int)
  have hkl : (L.take k).length ≤ D.plot.length := by rw [List.length_take, hL]; omega
  refine (oPoke v3 (hm.below hb3) (by omega) (by omega) x (h5.below hb3).bs (by have := h5.bs.len; omega) hi).mono ?_
  rintro e w' ⟨he, U2, M2, hm2, hg2, hn2, hk2⟩
  refine ⟨he, U2, M2, ?_, hg2.trans hg, hn.trans hn2 (Nat.le_trans hk.size hb3.size), (hk.trans (Kp.of_below hb3)).wr hn hk2⟩
  rw [List.take_add_one, hx, show (some x : Option Pok).toList = [x] from rfl, pokeL_snoc]
  exact hm2

set_option maxRecDepth 100000 in
set_option maxHeartbeats 4000000 in
theorem oAhead (w : World) {U : Nat → Prop} {d r : Nat} {D : DskS} {M : Mm} (h : Dm U w d r D M) (hz : D.safe.length + D.plot.length + 1 ≤ 1000000) (hz2 : D.loose.length ≤ 1000000) (hz3 : D.plot.length ≤ 1000000) :
    Calls Tryz.prog 114 #[.pointer (some ⟨d, 0, none⟩)] w fun e w' => e = .returned (.tuple #[]) ∧ Dng U w d r (D.pokes D.steps D.plot) M.g w' := by
  rw [← pokes_eq]
  obtain ⟨L, hL⟩ : ∃ L, L = plotL D.plot (D.steps : Int) := ⟨_, rfl⟩
  rw [← hL]
  have hrow := h.plot.row (D.steps : Int) (Int.le_refl _)
  obtain ⟨a, n, c, hv, hln⟩ := hrow.shape
  rw [← hL] at hln
  have hnb : n ≤ 1000000 := by have := plotL_len D.plot (D.steps : Int); rw [← hL] at this; omega
  have HL : Hid (L.length = n) := hln
  have F5 : ∀ u, Grows w u → u.cell? ⟨d, 5, none⟩ = some (.map M.mq) := fun u hu => (h.below hu).blk.cell 5
  have F2 : ∀ u, Grows w u → u.cell? ⟨d, 2, none⟩ = some (.int .i64 (D.steps : Int)) := fun u hu => (h.below hu).blk.cell 2
  have FL : ∀ u, Grows w u → (Instr.lookup 89 (.map M.mq) (.int .i64 (D.steps : Int)) false).run Tryz.prog u = .ok (.slice a n c) u := fun u hu => by rw [← hv]; exact (h.below hu).plotLook _
  have HEL : Hid (∀ wr k x, Dng U w d r (D.pokeL (L.take k)) M.g wr → L[k]? = some x → _) := fun wr k x hh hx => Lq.elem hL hh hv hz hz2 hx
  have HS : Hid (∀ u, Grows w u → Dng U w d r (D.pokeL (L.take 0)) M.g u) := fun u hu => by rw [List.take_zero]; exact Dng.same h hu
  clear hrow hln hv hz hz2 hz3 h hL
  go_enter Tryz.func114, Tryz.ntmps114
  go_wp2_with fail
  refine regionG (S := Grows w) (by kernel_rfl) (Below.refl _ w).drew ?_
  refine takeG 0 (some 4) (.pointer (some ⟨d, 0, none⟩)) rfl rfl (by kernel_rfl) (by kernel_rfl) (by kernel_rfl) (fun _ _ _ h => h) (ans_plain (by rfl) (fun w _ => rfl)) ?_
  simp only [Act.put, List.setIfInBounds_toArray, List.set_cons_zero, List.set_cons_succ]
  refine takeG 1 (some 5) (.pointer (some ⟨d, 0, none⟩)) rfl rfl (by kernel_rfl) (by kernel_rfl) (by kernel_rfl) (fun _ _ _ h => h) (ans_plain (by rfl) (fun w _ => by unfold execOp; go_simp)) ?_
  simp only [Act.put, List.setIfInBounds_toArray, List.set_cons_zero, List.set_cons_succ]
  refine takeG 2 (some 6) (.pointer (some ⟨d, 5, none⟩)) rfl rfl (by kernel_rfl) (by kernel_rfl) (by kernel_rfl) (fun _ _ _ h => h) (ans_plain (by rfl) (fun w _ => by unfold execOp; go_simp)) ?_
  simp only [Act.put, List.setIfInBounds_toArray, List.set_cons_zero, List.set_cons_succ]
  refine takeG 3 (some 7) (.map M.mq) rfl rfl (by kernel_rfl) (by kernel_rfl) (by kernel_rfl) (fun _ _ _ h => h) (ans_plain (by rfl) (fun w h => by have hc := F5 w h; unfold execOp; go_simp)) ?_
  simp only [Act.put, List.setIfInBounds_toArray, List.set_cons_zero, List.set_cons_succ]
  refine takeG 4 (some 8) (.pointer (some ⟨d, 0, none⟩)) rfl rfl (by kernel_rfl) (by kernel_rfl) (by kernel_rfl) (fun _ _ _ h => h) (ans_plain (by rfl) (fun w _ => rfl)) ?_
  simp only [Act.put, List.setIfInBounds_toArray, List.set_cons_zero, List.set_cons_succ]
  refine takeG 5 (some 9) (.pointer (some ⟨d, 0, none⟩)) rfl rfl (by kernel_rfl) (by kernel_rfl) (by kernel_rfl) (fun _ _ _ h => h) (ans_plain (by rfl) (fun w _ => by unfold execOp; go_simp)) ?_
  simp only [Act.put, List.setIfInBounds_toArray, List.set_cons_zero, List.set_cons_succ]
  refine takeG 6 (some 10) (.pointer (some ⟨d, 2, none⟩)) rfl rfl (by kernel_rfl) (by kernel_rfl) (by kernel_rfl) (fun _ _ _ h => h) (ans_plain (by rfl) (fun w _ => by unfold execOp; go_simp)) ?_
  simp only [Act.put, List.setIfInBounds_toArray, List.set_cons_zero, List.set_cons_succ]
  refine takeG 7 (some 11) (.int .i64 (D.steps : Int)) rfl rfl (by kernel_rfl) (by kernel_rfl) (by kernel_rfl) (fun _ _ _ h => h) (ans_plain (by rfl) (fun w h => by have hc := F2 w h; unfold execOp; go_simp)) ?_
  simp only [Act.put, List.setIfInBounds_toArray, List.set_cons_zero, List.set_cons_succ]
  refine takeG 8 (some 12) (.slice a n c) rfl rfl (by kernel_rfl) (by kernel_rfl) (by kernel_rfl) (fun _ _ _ h => h) (ans_lookR (.tmp 7) (.tmp 11) 89 rfl (by rfl) (.map M.mq) (.int .i64 (D.steps : Int)) _ rfl rfl FL) ?_
  simp only [Act.put, List.setIfInBounds_toArray, List.set_cons_zero, List.set_cons_succ]
  refine takeG 9 (some 13) (.int .i64 (n : Int)) rfl rfl (by kernel_rfl) (by kernel_rfl) (by kernel_rfl) (fun _ _ _ h => h) (ans_plain (by rfl) (fun w _ => by unfold execOp; go_simp)) ?_
  simp only [Act.put, List.setIfInBounds_toArray, List.set_cons_zero, List.set_cons_succ]
  refine takeG 10 (some 14) (.int .i64 0) rfl rfl (by kernel_rfl) (by kernel_rfl) (by kernel_rfl) (fun _ _ _ h => h) (ans_plain (by rfl) (fun w _ => rfl)) ?_
  simp only [Act.put, List.setIfInBounds_toArray, List.set_cons_zero, List.set_cons_succ]
  refine doneG (by kernel_rfl) fun u5 hg5 hs5 => ?_
  have D0 := HS.out u5 hs5
  clear F5 F2 FL HS hg5 hs5
  go_wp2_with fail
  go_loopw [14] (fun i wr => ∃ k : Nat, k ≤ n ∧ i = .int .i64 (k : Int) ∧ Dng U w d r (D.pokeL (L.take k)) M.g wr) (fun i _ => n - (intOf i).toNat)
  case atStart => exact ⟨0, Nat.zero_le _, rfl, D0⟩
  case round =>
    obtain ⟨k, hk, rfl, DG⟩ := hrel
    clear D0
    by_cases hlt : k < n
    · have i0 : (k : Int) < (n : Int) := by omega
      obtain ⟨x, hx⟩ : ∃ x, L[k]? = some x := ⟨_, List.getElem?_eq_getElem (by rw [HL.out]; exact hlt)⟩
      obtain ⟨eb, eo, p, m, q, ha, hlb, hrg, CC⟩ := HEL.out wr k x DG hx
      have HC : Hid _ := CC
      unfold xv at HC
      obtain ⟨xa, xb, xc, xd, xe⟩ := x
      dsimp only at hrg HC
      subst ha
      have z7 : Blk (wr.alloc (.cells #[.int .i64 0, .int .i64 0, .int .i64 0, .slice none 0 0, .int .i64 0] 28)) wr.heap.size [.int .i64 0, .int .i64 0, .int .i64 0, .slice none 0 0, .int .i64 0] 28 := Blk.newAt wr _ _ wr.heap.size rfl _ rfl
      have k7 : Below wr.heap.size wr (wr.alloc (.cells #[.int .i64 0, .int .i64 0, .int .i64 0, .slice none 0 0, .int .i64 0] 28)) := below_alloc _ _
      clear hx CC DG
      go_wp2_with (first
        | ((with_reducible refine at_ld 28 ?_); (refine ld 28 (.tmp 16) 5 sizeQ5 _ Tryz.underlying28 rfl eb (eo + k * 5) [.int .i64 xa, .int .i64 xb, .int .i64 xc, .slice p m q, .int .i64 xe] rfl hrg rfl ?_))
        | ((with_reducible refine at_st 28 ?_); (refine st' 28 (.tmp 3) (.tmp 17) 5 sizeQ5 wr.heap.size 0 [.int .i64 xa, .int .i64 xb, .int .i64 xc, .slice p m q, .int .i64 xe] rfl (one28 _ _ _ _ _ _ _) (z7.there 0 5 (by simp)) rfl rfl ?_); intro v3 hv3; have b3 : Blk v3 wr.heap.size [.int .i64 xa, .int .i64 xb, .int .i64 xc, .slice p m q, .int .i64 xe] 28 := (by rw [hv3]; exact z7.setsW _ rfl); have k3 : Below wr.heap.size wr v3 := (by rw [hv3]; exact below_sets (Nat.le_refl _) _ k7 0); have l3 := b3.lt; clear hv3)
        | ((with_reducible refine at_ld 28 ?_); (refine ld 28 (.tmp 3) 5 sizeQ5 _ Tryz.underlying28 rfl wr.heap.size 0 [.int .i64 xa, .int .i64 xb, .int .i64 xc, .slice p m q, .int .i64 xe] rfl b3.whole rfl ?_)))
      refine (HC.out v3 k3).mono ?_
      rintro e w4 ⟨rfl, DG4⟩
      clear l3 b3 k3 z7 k7 hrg HC
      go_wp2_with fail
      go_roundw
      case rel => exact ⟨k + 1, by omega, by go_num, DG4⟩
      case measure => simp [intOf]; omega
    · have i0 : ¬ (k : Int) < (n : Int) := by omega
      rw [List.take_of_length_le (by rw [HL.out]; omega)] at DG
      have HD : Hid _ := DG
      clear DG
      go_wp2_with fail
      go_end0
      exact ⟨rfl, HD.out⟩

end Go.Proofs.YtlenmkhmkommcaaGreat
