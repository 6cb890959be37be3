/-
  The contract of the program's Hex: two digits of sixteen of each byte. Condition: a row of at most 1000000 bytes.
-/
import Derived.Test.YtfgoomlgmepalaaStepApp
import Derived.Laws.BytesArg
import Derived.Laws.IdiomStrings
namespace Go.Proofs.Ytfgoomlgmepalaa
open Go.RowKit

def digs : List UInt8 := [48, 49, 50, 51, 52, 53, 54, 55, 56, 57, 97, 98, 99, 100, 101, 102]
def hex2 (x : UInt8) : List UInt8 := [digs.getD (x.toNat / 16) 0, digs.getD (x.toNat % 16) 0]
def hexL (l : List UInt8) : List UInt8 := l.flatMap hex2

theorem Own.shape {w : World} {base : Nat} {v : Value} {l : List UInt8} (h : Own w base v l) : ∃ a m c, v = .slice a m c ∧ (a = none ∨ ∃ g, a = some ⟨g, 0, none⟩) := by
  obtain ⟨_, h2⟩ := h
  rcases h2 with ⟨rfl, _⟩ | ⟨g, cap, cur, rfl, _⟩
  · exact ⟨none, 0, 0, rfl, Or.inl rfl⟩
  · exact ⟨_, _, cap, rfl, Or.inr ⟨g, rfl⟩⟩

/-- 'string(b)' of bytes of the call's own. -/
theorem Own.str {w : World} {base : Nat} {a : Option Addr} {m c : Nat} {l : List UInt8} (h : Own w base (.slice a m c) l) : Sem.run Try.prog (convert 27 9 (.slice a m c)) w = .ok (.string ⟨l.toArray⟩) w := by
  have hb := h.toBs
  obtain ⟨a', m', c', e, hs⟩ := h.shape
  simp only [Value.slice.injEq] at e
  obtain ⟨rfl, rfl, rfl⟩ := e
  rcases hs with rfl | ⟨g, rfl⟩
  · have hc := hb.2.2.2.1 rfl
    have hcap := hb.cap
    have e : l = [] := List.length_eq_zero_iff.1 (by rw [hb.len]; omega)
    subst e
    rw [run_convert_bytes_nil w 27 5 Try.underlying27 Try.underlying5 m c 9 Try.underlying9]
    rfl
  · rw [run_convert_bytes_arg w 27 5 Try.underlying27 Try.underlying5 g 0 m c (l.map fun x => (x.toNat : Int)) (by simp [hb.len]) ?_ 9 Try.underlying9]
    · have e : strOfNums (l.map fun x => (x.toNat : Int)) = ⟨l.toArray⟩ := by
        unfold strOfNums
        simp [Function.comp_def]
      rw [e]
    · intro i hi
      obtain ⟨b, o, ha, hc⟩ := hb.2.2.2.2 i hi
      simp at ha
      obtain ⟨rfl, rfl⟩ := ha
      rw [hc]
      have hi' : i < l.length := by rw [hb.len]; exact hi
      rw [bt_of_lt hi']
      simp [List.getD_eq_getElem?_getD, hi']

theorem dig_at (i : Nat) (h : i < 16) : (⟨#[48, 49, 50, 51, 52, 53, 54, 55, 56, 57, 97, 98, 99, 100, 101, 102]⟩ : ByteArray)[i]'h = digs.getD i 0 := by
  have : ∀ j : Fin 16, (⟨#[48, 49, 50, 51, 52, 53, 54, 55, 56, 57, 97, 98, 99, 100, 101, 102]⟩ : ByteArray)[j.val]'j.isLt = digs.getD j.val 0 := by decide
  exact this ⟨i, h⟩

theorem hex_step {l : List UInt8} {k : Nat} (h : k < l.length) : hexL (l.take k) ++ hex2 l[k] = hexL (l.take (k + 1)) := by
  rw [take_snoc h]
  unfold hexL
  rw [List.flatMap_append]
  simp only [List.flatMap_cons, List.flatMap_nil, List.append_nil]
theorem hexL_length (l : List UInt8) : (hexL l).length = 2 * l.length := by
  induction l with
  | nil => rfl
  | cons x r ih => simp [hexL, hex2] at *; omega

abbrev dg (i : Nat) (h : i < 16) : UInt8 := (⟨#[48, 49, 50, 51, 52, 53, 54, 55, 56, 57, 97, 98, 99, 100, 101, 102]⟩ : ByteArray)[i]'h
theorem and15 {a : Int} (h0 : 0 ≤ a) (h1 : a ≤ 255) : bits .and .u8 a 15 = a % 16 := by
  rw [u8_and a 15 h0 (by omega) (by omega) (by omega), show (15 : Int).toNat = 2 ^ 4 - 1 from rfl, Nat.and_two_pow_sub_one_eq_mod]
  omega
theorem hex_own {w : World} {base : Nat} {v : Value} {l : List UInt8} {k : Nat} (h : k < l.length) (p1 : (bt l k / 16).toNat < 16) (p2 : (bt l k % 16).toNat < 16) (ho : Own w base v (hexL (l.take k) ++ [dg (bt l k / 16).toNat p1, dg (bt l k % 16).toNat p2])) : Own w base v (hexL (l.take (k + 1))) := by
  rw [← hex_step h]
  have e1 : (bt l k / 16).toNat = l[k].toNat / 16 := by rw [bt_of_lt h]; omega
  have e2 : (bt l k % 16).toNat = l[k].toNat % 16 := by rw [bt_of_lt h]; omega
  have d1 : dg (bt l k / 16).toNat p1 = digs.getD (l[k].toNat / 16) 0 := by rw [← e1]; exact dig_at _ p1
  have d2 : dg (bt l k % 16).toNat p2 = digs.getD (l[k].toNat % 16) 0 := by rw [← e2]; exact dig_at _ p2
  unfold hex2
  rw [← d1, ← d2]
  exact ho
theorem hex_room {l : List UInt8} {n k : Nat} (H : Hid (l.length = n)) (h : n ≤ 1000000) (x y : UInt8) : (hexL (l.take k)).length + [x, y].length ≤ 1000000000 := by
  have : (l.take k).length ≤ l.length := List.length_take_le' _ _
  rw [hexL_length]
  rw [H.out] at this
  simp only [List.length_cons, List.length_nil]
  omega
theorem ret_str {A B : List UInt8} (h : A = B) : Ending.returned (.string ⟨A.toArray⟩) = .returned (.string ⟨B.toArray⟩) := by rw [h]
theorem hex_end {l : List UInt8} {n k : Nat} (H : Hid (l.length = n)) (h : ¬ k < n) : hexL (l.take k) = hexL l := by
  rw [List.take_of_length_le (by rw [H.out]; omega)]

set_option maxHeartbeats 400000 in
theorem oHex (w : World) {a : Option Addr} {n c : Nat} {l : List UInt8} (ha : Bs w a n c l) (hz : n ≤ 1000000) :
    Calls Try.prog 27 #[.slice a n c] w fun e w' => e = .returned (.string ⟨(hexL l).toArray⟩) ∧ Below w.heap.size w w' := by
  by_cases h0 : n = 0
  · subst h0
    have e : l = [] := List.length_eq_zero_iff.1 ha.len
    subst e
    clear ha
    go_enter Try.func27, Try.ntmps27
    go_wp2_with (at_make; refine wpList_mk0 _ rfl _ _ rfl w.heap.size _ rfl rfl (by omega) (by omega) (Nat.le_refl _) ?_; intro v1 w1 hown hbel; obtain ⟨ap, mp, cp, rfl, _⟩ := hown.shape)
    have hstr := hown.str
    refine wp_loop_rounds 1 ?_; rw [rounds_succ]; go_wp2
    go_ret
    exact ⟨rfl, hbel⟩
  · obtain ⟨x, o, rfl, hx, hc⟩ := ha.at (by omega)
    have H : Hid (l.length = n) := ha.len
    clear ha
    go_enter Try.func27, Try.ntmps27
    go_wp2_with (at_make; refine wpList_mk0 _ rfl _ _ rfl w.heap.size _ rfl rfl (by omega) (by omega) (Nat.le_refl _) ?_; intro v1 w1 hown hbel)
    go_loopw [3, 12] (fun v i wr => ∃ k : Nat, k ≤ n ∧ i = .int .i64 k ∧ Own wr w.heap.size v (hexL (l.take k)) ∧ Below w.heap.size w wr) (fun _ i _ => n - (intOf i).toNat)
    case atStart => exact ⟨0, Nat.zero_le _, rfl, hown, hbel⟩
    case round =>
      obtain ⟨k, hk, rfl, ho, hb⟩ := hrel
      clear hown hbel
      by_cases hlt : k < n
      · have c1 : wr.cell? ⟨x, o + k, none⟩ = some (.int .u8 (bt l k)) := by rw [hb.cell (p := ⟨x, o + k, none⟩) hx]; exact hc k (by omega)
        have b1 := bt_lo l k
        have b2 := bt_hi l k
        have q1 : 0 ≤ bt l k / 16 := by omega
        have q2 : bt l k / 16 < 16 := by omega
        have q3 : 0 ≤ bt l k % 16 := by omega
        have q4 : bt l k % 16 < 16 := by omega
        have p1 : (bt l k / 16).toNat < 16 := by omega
        have p2 : (bt l k % 16).toNat < 16 := by omega
        have ha := and15 b1 b2
        have hs : w.heap.size ≤ wr.heap.size := hb.size
        have hr := hex_room (k := k) H hz (dg (bt l k / 16).toNat p1) (dg (bt l k % 16).toNat p2)
        go_wp2
        go_region_law (refine step_app rfl (.tmp 16) (.tmp 23) rfl w.heap.size _ _ rfl (ho.below (below_alloc _ _).drew (Nat.le_refl _)) _ 2 2 [dg (bt l k / 16).toNat p1, dg (bt l k % 16).toNat p2] rfl (Bs.made _ [dg (bt l k / 16).toNat p1, dg (bt l k % 16).toNat p2] _ rfl (by simp)).drew hr (by simp; omega) ?_; intro v2 w2 ho2 hb2)
        all_goals
          go_wp2
          go_roundw
          case rel => exact ⟨k + 1, by omega, by go_num, hex_own (by rw [H.out]; exact hlt) p1 p2 ho2, (hb.trans ((below_alloc _ _).drew.mono hs)).trans hb2⟩
          case measure => simp [intOf]; omega
      · obtain ⟨ap, mp, cp, rfl, _⟩ := ho.shape
        have hstr := ho.str
        go_wp2
        go_ret
        exact ⟨ret_str (hex_end H hlt), hb⟩

end Go.Proofs.Ytfgoomlgmepalaa
