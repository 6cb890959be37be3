/-
  Slices of slices of bytes, and the contracts of total, Join and Pack, the reference's Join and Pack, Short and SameAll. Conditions: the parts have at most 100000 bytes in all, and are at most 100000 (of Short and SameAll: none but that lengths fit).
-/
import Derived.Test.YtabokdffhomhiaaPut
import Derived.Test.YtabokdffhomhiaaSame
namespace Go.Proofs.Ytabokdffhomhiaa
open Go.RowKit

/-- The slice (a, n, c) holds slices of the bytes ls. -/
def Bss (w : World) (a : Option Addr) (n c : Nat) (ls : List (List UInt8)) : Prop :=
  ls.length = n ∧ n ≤ c ∧ c ≤ maxLen ∧ ∀ i, i < n → ∃ b o p m q, a = some ⟨b, o, none⟩ ∧ w.cell? ⟨b, o + i, none⟩ = some (.slice p m q) ∧ Bs w p m q (ls.getD i [])

theorem Bss.len {w : World} {a : Option Addr} {n c : Nat} {l : List (List UInt8)} (h : Bss w a n c l) : l.length = n := h.1
theorem Bss.max {w : World} {a : Option Addr} {n c : Nat} {l : List (List UInt8)} (h : Bss w a n c l) : n ≤ 9223372036854775807 := by
  have h1 := h.2.1
  have h2 := h.2.2.1
  unfold maxLen at h2
  omega

theorem Bss.at {w : World} {a : Option Addr} {n c : Nat} {ls : List (List UInt8)} (h : Bss w a n c ls) (hn : 0 < n) :
    ∃ b o, a = some ⟨b, o, none⟩ ∧ b < w.heap.size ∧ ∀ i, i < n → ∃ p m q, w.cell? ⟨b, o + i, none⟩ = some (.slice p m q) ∧ Bs w p m q (ls.getD i []) := by
  obtain ⟨b, o, p, m, q, ha, hc, _⟩ := h.2.2.2 0 hn
  refine ⟨b, o, ha, lt_of_cell hc, fun i hi => ?_⟩
  obtain ⟨b', o', p', m', q', ha', hc', hb'⟩ := h.2.2.2 i hi
  rw [ha] at ha'
  simp at ha'
  obtain ⟨rfl, rfl⟩ := ha'
  exact ⟨p', m', q', hc', hb'⟩

theorem Bss.below {w w' : World} {a : Option Addr} {n c : Nat} {l : List (List UInt8)} (h : Bss w a n c l) {B : Nat} (hb : Below B w w') (hB : w.heap.size ≤ B) : Bss w' a n c l := by
  refine ⟨h.1, h.2.1, h.2.2.1, fun i hi => ?_⟩
  obtain ⟨b, o, p, m, q, ha, hc, hs⟩ := h.2.2.2 i hi
  refine ⟨b, o, p, m, q, ha, ?_, hs.below hb hB⟩
  rw [hb.cell (p := ⟨b, o + i, none⟩) (by have := lt_of_cell hc; simp at this ⊢; omega)]
  exact hc

/-- How many bytes in all. -/
def tot : List (List UInt8) → Nat
  | [] => 0
  | x :: r => x.length + tot r

theorem tot_snoc (l : List (List UInt8)) (x : List UInt8) : tot (l ++ [x]) = tot l + x.length := by
  induction l with
  | nil => simp [tot]
  | cons y r ih => simp [tot, ih]; omega

theorem tot_flatten (l : List (List UInt8)) : l.flatten.length = tot l := by
  induction l with
  | nil => rfl
  | cons y r ih => simp [tot, ← ih]

theorem takes_snoc {l : List (List UInt8)} {k : Nat} (h : k < l.length) : l.take (k + 1) = l.take k ++ [l.getD k []] := by
  rw [List.take_succ_eq_append_getElem h, List.getD_eq_getElem?_getD, List.getElem?_eq_getElem h]
  rfl

theorem tot_take_le (l : List (List UInt8)) (k : Nat) : tot (l.take k) ≤ tot l := by
  induction l generalizing k with
  | nil => simp
  | cons y r ih =>
    cases k with
    | zero => simp [tot]
    | succ k => simp [tot]; exact ih k

theorem tot_step {l : List (List UInt8)} {k m : Nat} (h : k < l.length) (hm : (l.getD k []).length = m) : (tot (l.take k) : Int) + (m : Int) = (tot (l.take (k + 1)) : Nat) := by
  rw [takes_snoc h, tot_snoc, hm]
  omega

/-- Each part with its length ahead. -/
def packL : List (List UInt8) → List UInt8
  | [] => []
  | x :: r => putL x.length 4 ++ x ++ packL r

theorem packL_snoc (l : List (List UInt8)) (x : List UInt8) : packL (l ++ [x]) = packL l ++ putL x.length 4 ++ x := by
  induction l with
  | nil => simp [packL]
  | cons y r ih => simp [packL, ih]

theorem packL_length (l : List (List UInt8)) : (packL l).length = tot l + 4 * l.length := by
  induction l with
  | nil => rfl
  | cons y r ih => simp [packL, tot, ih, putL_length]; omega

set_option maxHeartbeats 400000 in
theorem oTotal (w : World) {a : Option Addr} {n c : Nat} {ls : List (List UInt8)} (ha : Bss w a n c ls) (hz : tot ls ≤ 100000) :
    Calls Try.prog 37 #[.slice a n c] w fun e w' => e = .returned (.int .i64 (tot ls : Nat)) ∧ w = w' := by
  have h1 := ha.max
  by_cases h0 : n = 0
  · subst h0
    have e : ls = [] := List.length_eq_zero_iff.1 ha.len
    subst e
    clear ha
    go_enter Try.func37, Try.ntmps37
    go_wp2
    refine wp_loop_rounds 1 ?_; rw [rounds_succ]; go_wp2
    go_ret
    exact ⟨rfl, rfl⟩
  · obtain ⟨x, o, rfl, hx, hc⟩ := ha.at (by omega)
    have H : Hid (ls.length = n) := ha.len
    clear ha
    go_enter Try.func37, Try.ntmps37
    go_wp2
    go_loop [3, 8] (fun t i => ∃ k : Nat, k ≤ n ∧ i = .int .i64 k ∧ t = .int .i64 (tot (ls.take k) : Nat)) (fun _ i => n - (intOf i).toNat)
    case atStart => exact ⟨0, Nat.zero_le _, rfl, rfl⟩
    case round =>
      obtain ⟨k, hk, rfl, rfl⟩ := hrel
      by_cases hlt : k < n
      · obtain ⟨p, m, q, c1, hb⟩ := hc k hlt
        have b0 := tot_take_le ls (k + 1)
        have b1 := tot_step (by rw [H.out]; exact hlt) hb.len
        have B1 : Hid ((tot (ls.take k) : Int) + (m : Int) = (tot (ls.take (k + 1)) : Nat)) := b1
        have b2 : (tot (ls.take k) : Int) + (m : Int) ≤ 100000 := by omega
        clear hc b0 b1 hb
        go_wp2
        go_round
        case rel => exact ⟨k + 1, by omega, by go_num, by rw [B1.out]⟩
        case measure => simp [intOf]; omega
      · go_wp2
        go_ret
        exact ⟨ret_int (by rw [List.take_of_length_le (by rw [H.out]; omega)]), rfl⟩

/-- A part, asked for in the middle of a loop. -/
theorem Bss.part {w wr : World} {x o n : Nat} {ls : List (List UInt8)} (hc : ∀ i, i < n → ∃ p m q, w.cell? ⟨x, o + i, none⟩ = some (.slice p m q) ∧ Bs w p m q (ls.getD i [])) (hb : Below w.heap.size w wr) (k : Nat) (hk : k < n) :
    ∃ p m q, wr.cell? ⟨x, o + k, none⟩ = some (.slice p m q) ∧ Bs w p m q (ls.getD k []) := by
  obtain ⟨p, m, q, c1, h⟩ := hc k hk
  refine ⟨p, m, q, ?_, h⟩
  rw [hb.cell (p := ⟨x, o + k, none⟩) (lt_of_cell c1)]
  exact c1

theorem flat_step {l : List (List UInt8)} {k : Nat} (h : k < l.length) : (l.take k).flatten ++ l.getD k [] = (l.take (k + 1)).flatten := by
  rw [takes_snoc h]; simp
theorem flat_room {l : List (List UInt8)} {k : Nat} (h : k < l.length) (hz : tot l ≤ 100000) : (l.take k).flatten.length + (l.getD k []).length ≤ 1000000000 := by
  have := tot_take_le l (k + 1)
  rw [takes_snoc h, tot_snoc] at this
  rw [tot_flatten]
  omega
theorem flat_end {w : World} {base n k : Nat} {v : Value} {l : List (List UInt8)} (H : Hid (l.length = n)) (h : ¬ k < n) (ho : Own w base v (l.take k).flatten) : Own w base v l.flatten := by
  rw [List.take_of_length_le (by rw [H.out]; omega)] at ho
  exact ho

set_option maxHeartbeats 400000 in
theorem oJoin (w : World) {a : Option Addr} {n c : Nat} {ls : List (List UInt8)} (ha : Bss w a n c ls) (hz : tot ls ≤ 100000) :
    Calls Try.prog 15 #[.slice a n c] w (Gives w ls.flatten) := by
  have h1 := ha.max
  have hT := oTotal w ha hz
  by_cases h0 : n = 0
  · subst h0
    have e : ls = [] := List.length_eq_zero_iff.1 ha.len
    subst e
    clear ha
    go_enter Try.func15, Try.ntmps15
    go_wp2_with (first | (go_at_call 37; refine hT.mono ?_; rintro e w' ⟨rfl, rfl⟩) | (at_make; refine wpList_mk0 _ rfl _ _ rfl _ _ rfl rfl (by omega) (by omega) (Nat.le_refl _) ?_; intro v1 w1 hown hbel))
    refine wp_loop_rounds 1 ?_; rw [rounds_succ]; go_wp2
    go_ret
    exact Gives.mk hown hbel
  · obtain ⟨x, o, rfl, hx, hc⟩ := ha.at (by omega)
    have H : Hid (ls.length = n) := ha.len
    clear ha
    go_enter Try.func15, Try.ntmps15
    go_wp2_with (first | (go_at_call 37; refine hT.mono ?_; rintro e w' ⟨rfl, rfl⟩) | (at_make; refine wpList_mk0 _ rfl _ _ rfl _ _ rfl rfl (by omega) (by omega) (Nat.le_refl _) ?_; intro v1 w1 hown hbel))
    clear hT
    go_loopw [3, 11] (fun v i wr => ∃ k : Nat, k ≤ n ∧ i = .int .i64 k ∧ Own wr w.heap.size v (ls.take k).flatten ∧ Below w.heap.size w wr) (fun _ i _ => n - (intOf i).toNat)
    case atStart => exact ⟨0, Nat.zero_le _, rfl, hown, hbel⟩
    case round =>
      obtain ⟨k, hk, rfl, ho, hb⟩ := hrel
      clear hown hbel
      by_cases hlt : k < n
      · obtain ⟨p, m, q, c1, hp⟩ := Bss.part hc hb k hlt
        have hr := flat_room (by rw [H.out]; exact hlt) hz
        have hs := hb.size
        have HS : Hid ((ls.take k).flatten ++ ls.getD k [] = (ls.take (k + 1)).flatten) := flat_step (by rw [H.out]; exact hlt)
        go_wp2_with (at_builtin; refine wpList_app _ rfl _ _ rfl w.heap.size _ _ rfl ho _ _ _ _ rfl (hp.below hb (Nat.le_refl _)) hr hs ?_; intro v2 w2 ho2 hb2)
        go_roundw
        case rel => exact ⟨k + 1, by omega, by go_num, by rw [← HS.out]; exact ho2, hb.trans hb2⟩
        case measure => simp [intOf]; omega
      · go_wp2
        go_ret
        exact Gives.mk (flat_end H hlt ho) hb

set_option maxHeartbeats 400000 in
theorem rJoin (w : World) {a : Option Addr} {n c : Nat} {ls : List (List UInt8)} (ha : Bss w a n c ls) (hz : tot ls ≤ 100000) :
    Calls Try.prog 17 #[.slice a n c] w (Gives w ls.flatten) := by
  have h1 := ha.max
  by_cases h0 : n = 0
  · subst h0
    have e : ls = [] := List.length_eq_zero_iff.1 ha.len
    subst e
    clear ha
    go_enter Try.func17, Try.ntmps17
    go_wp2_with fail
    refine wp_loop_rounds 1 ?_; rw [rounds_succ]; go_wp2
    go_ret
    exact Gives.mk (Own.nil _ _) (Below.refl _ _)
  · obtain ⟨x, o, rfl, hx, hc⟩ := ha.at (by omega)
    have H : Hid (ls.length = n) := ha.len
    clear ha
    go_enter Try.func17, Try.ntmps17
    go_wp2_with fail
    go_loopw [3, 4] (fun v i wr => ∃ k : Nat, k ≤ n ∧ i = .int .i64 k ∧ Own wr w.heap.size v (ls.take k).flatten ∧ Below w.heap.size w wr) (fun _ i _ => n - (intOf i).toNat)
    case atStart => exact ⟨0, Nat.zero_le _, rfl, Own.nil _ _, Below.refl _ _⟩
    case round =>
      obtain ⟨k, hk, rfl, ho, hb⟩ := hrel
      by_cases hlt : k < n
      · obtain ⟨p, m, q, c1, hp⟩ := Bss.part hc hb k hlt
        have hr := flat_room (by rw [H.out]; exact hlt) hz
        have hs := hb.size
        have HS : Hid ((ls.take k).flatten ++ ls.getD k [] = (ls.take (k + 1)).flatten) := flat_step (by rw [H.out]; exact hlt)
        go_wp2_with (at_builtin; refine wpList_app _ rfl _ _ rfl w.heap.size _ _ rfl ho _ _ _ _ rfl (hp.below hb (Nat.le_refl _)) hr hs ?_; intro v2 w2 ho2 hb2)
        go_roundw
        case rel => exact ⟨k + 1, by omega, by go_num, by rw [← HS.out]; exact ho2, hb.trans hb2⟩
        case measure => simp [intOf]; omega
      · go_wp2
        go_ret
        exact Gives.mk (flat_end H hlt ho) hb

theorem pack_room {l : List (List UInt8)} {k m : Nat} (h : k < l.length) (hm : (l.getD k []).length = m) (hz : tot l ≤ 100000) (hn : l.length ≤ 100000) :
    m ≤ 100000 ∧ (packL (l.take k)).length + (putL m 4).length ≤ 1000000000 ∧ (packL (l.take k) ++ putL m 4).length + (l.getD k []).length ≤ 1000000000 := by
  have h1 := tot_take_le l (k + 1)
  rw [takes_snoc h, tot_snoc] at h1
  have h2 : (l.take k).length ≤ l.length := List.length_take_le' _ _
  rw [List.length_append, packL_length, putL_length]
  omega
theorem pack_step {l : List (List UInt8)} {k m : Nat} (h : k < l.length) (hm : (l.getD k []).length = m) : packL (l.take k) ++ putL m 4 ++ l.getD k [] = packL (l.take (k + 1)) := by
  rw [takes_snoc h, packL_snoc, hm]
theorem pack_end {w : World} {base n k : Nat} {v : Value} {l : List (List UInt8)} (H : Hid (l.length = n)) (h : ¬ k < n) (ho : Own w base v (packL (l.take k))) : Own w base v (packL l) := by
  rw [List.take_of_length_le (by rw [H.out]; omega)] at ho
  exact ho

set_option maxHeartbeats 400000 in
theorem oPack (w : World) {a : Option Addr} {n c : Nat} {ls : List (List UInt8)} (ha : Bss w a n c ls) (hz : tot ls ≤ 100000) (hn : n ≤ 100000) :
    Calls Try.prog 16 #[.slice a n c] w (Gives w (packL ls)) := by
  have hT := oTotal w ha hz
  by_cases h0 : n = 0
  · subst h0
    have e : ls = [] := List.length_eq_zero_iff.1 ha.len
    subst e
    clear ha
    go_enter Try.func16, Try.ntmps16
    go_wp2_with (first | (go_at_call 37; refine hT.mono ?_; rintro e w' ⟨rfl, rfl⟩) | (at_make; refine wpList_mk0 _ rfl _ _ rfl _ _ rfl rfl (by omega) (by omega) (Nat.le_refl _) ?_; intro v1 w1 hown hbel))
    refine wp_loop_rounds 1 ?_; rw [rounds_succ]; go_wp2
    go_ret
    exact Gives.mk hown hbel
  · obtain ⟨x, o, rfl, hx, hc⟩ := ha.at (by omega)
    have H : Hid (ls.length = n) := ha.len
    clear ha
    go_enter Try.func16, Try.ntmps16
    go_wp2_with (first | (go_at_call 37; refine hT.mono ?_; rintro e w' ⟨rfl, rfl⟩) | (at_make; refine wpList_mk0 _ rfl _ _ rfl _ _ rfl rfl (by omega) (by omega) (Nat.le_refl _) ?_; intro v1 w1 hown hbel))
    clear hT
    go_loopw [3, 15] (fun v i wr => ∃ k : Nat, k ≤ n ∧ i = .int .i64 k ∧ Own wr w.heap.size v (packL (ls.take k)) ∧ Below w.heap.size w wr) (fun _ i _ => n - (intOf i).toNat)
    case atStart => exact ⟨0, Nat.zero_le _, rfl, hown, hbel⟩
    case round =>
      obtain ⟨k, hk, rfl, ho, hb⟩ := hrel
      clear hown hbel
      by_cases hlt : k < n
      · obtain ⟨p, m, q, c1, hp⟩ := Bss.part hc hb k hlt
        obtain ⟨r0, r1, r2⟩ := pack_room (by rw [H.out]; exact hlt) hp.len hz (by rw [H.out]; exact hn)
        have hs := hb.size
        have HS : Hid (packL (ls.take k) ++ putL m 4 ++ ls.getD k [] = packL (ls.take (k + 1))) := pack_step (by rw [H.out]; exact hlt) hp.len
        have hP := oPut (m : Int) 4 wr (by omega) (by omega) (by omega) (by omega)
        rw [Int.toNat_natCast, show (4 : Int).toNat = 4 from rfl] at hP
        have HP : Hid (Calls Try.prog 10 #[.int .u64 (m : Int), .int .i64 4] wr (Gives wr (putL m 4))) := hP
        clear hP
        go_wp2_with (first | (go_at_call 10; refine HP.out.mono ?_; rintro e w1 ⟨a1, m1, c1', rfl, ho1, hb1⟩) | (at_builtin; refine wpList_app _ rfl (.tmp 19) (.tmp 23) rfl w.heap.size _ _ rfl (ho.below hb1 (Nat.le_refl _)) _ _ _ _ rfl ho1.toBs r1 (Nat.le_trans hs hb1.size) ?_; intro v2 w2 ho2 hb2) | (at_builtin; refine wpList_app _ rfl (.tmp 25) (.tmp 26) rfl w.heap.size _ _ rfl ho2 _ _ _ _ rfl (hp.below (hb.trans ((hb1.mono hs).trans hb2)) (Nat.le_refl _)) r2 (Nat.le_trans (Nat.le_trans hs hb1.size) hb2.size) ?_; intro v3 w3 ho3 hb3))
        go_roundw
        case rel => exact ⟨k + 1, by omega, by go_num, by rw [← HS.out]; exact ho3, hb.trans (((hb1.mono hs).trans hb2).trans hb3)⟩
        case measure => simp [intOf]; omega
      · go_wp2
        go_ret
        exact Gives.mk (pack_end H hlt ho) hb
end Go.Proofs.Ytabokdffhomhiaa
