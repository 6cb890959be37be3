/-
  Slices of bytes that are cut; worlds that differ in one block and in what is new. No condition; no statement of the seat is proved here.
-/
import Derived.Test.YtcmbkpdefbaakaaOwn
namespace Go.Proofs.Ytcmbkpdefbaakaa
open Go.RowKit


theorem sizeOf5 (w : World) : Sem.run Try.prog (sizeOf (Try.prog.elem 46)) w = .ok 1 w := by kernel_rfl
theorem under23 : Try.prog.underlying 46 = some (.slice (Try.prog.elem 46)) := by kernel_rfl

theorem bt_drop (l : List UInt8) (k i : Nat) : bt (l.drop k) i = bt l (k + i) := by
  unfold bt
  simp [List.getD_eq_getElem?_getD]
theorem bt_take {l : List UInt8} {k i : Nat} (h : i < k) : bt (l.take k) i = bt l i := by
  unfold bt
  simp [List.getD_eq_getElem?_getD, h]

/-- 'b[k:]' -/
theorem Bs.cutLow {w0 : World} {a : Option Addr} {n c : Nat} {l : List UInt8} (h : Bs w0 a n c l) (k : Nat) (hk : k ≤ n) :
    ∃ a' c', (∀ w, Sem.run Try.prog (Instr.slice 46 (.slice a n c) (some (.int .i64 k)) none none) w = .ok (.slice a' (n - k) c') w) ∧
      (∀ w, Bs w a n c l → Bs w a' (n - k) c' (l.drop k)) ∧ ∀ x, a' = some x → ∃ y, a = some y ∧ x.block = y.block := by
  have hcap := h.cap
  refine ⟨if c = k then a else a.map (fun x => x.add (k * 1)), c - k, ?_, ?_, ?_⟩
  · intro w
    rw [run_slice_l w 46 a n c under23 .i64 (k : Int) (by omega) (by omega), sizeOf5]
    simp only [Result.andThen, sliced, Int.toNat_natCast]
  · intro w hb
    refine ⟨by simp [hb.len], by omega, Nat.le_trans (Nat.sub_le _ _) hb.2.2.1, ?_, ?_⟩
    · intro he
      by_cases hck : c = k
      · omega
      · rw [if_neg hck] at he
        simp at he
        have := hb.2.2.2.1 he
        omega
    · intro i hi
      obtain ⟨b, o, ha, hc⟩ := hb.2.2.2.2 (k + i) (by omega)
      subst ha
      refine ⟨b, o + k, ?_, ?_⟩
      · rw [if_neg (by omega)]
        simp only [Option.map_some, Nat.mul_one]
        unfold Addr.add
        split
        · subst_vars; rfl
        · rfl
      · rw [bt_drop, show o + k + i = o + (k + i) from by omega]
        exact hc
  · intro x hx
    by_cases hck : c = k
    · rw [if_pos hck] at hx
      exact ⟨x, hx, rfl⟩
    · rw [if_neg hck] at hx
      cases a with
      | none => simp at hx
      | some y =>
        simp at hx
        refine ⟨y, rfl, ?_⟩
        rw [← hx]
        unfold Addr.add
        split <;> rfl

/-- 'b[:k]' -/
theorem Bs.cutHigh {w0 : World} {a : Option Addr} {n c : Nat} {l : List UInt8} (h : Bs w0 a n c l) (k : Nat) (hk : k ≤ n) :
    (∀ w, Sem.run Try.prog (Instr.slice 46 (.slice a n c) none (some (.int .i64 k)) none) w = .ok (.slice a k c) w) ∧ ∀ w, Bs w a n c l → Bs w a k c (l.take k) := by
  have hcap := h.cap
  constructor
  · intro w
    rw [run_slice_h w 46 a n c under23 .i64 (k : Int) (by omega) (by omega), sizeOf5]
    simp only [Result.andThen, sliced, Int.toNat_natCast, Nat.sub_zero]
    by_cases hc : c = 0
    · rw [if_pos hc]
    · rw [if_neg hc]
      cases a with
      | none => rfl
      | some y => simp [Addr.add]
  · intro w hb
    refine ⟨by simp [hb.len]; omega, by omega, hb.2.2.1, hb.2.2.2.1, fun i hi => ?_⟩
    obtain ⟨b, o, ha, hc⟩ := hb.2.2.2.2 i (by omega)
    exact ⟨b, o, ha, by rw [bt_take hi]; exact hc⟩

/-- 'b[i:j]' -/
theorem Bs.cut2 {w0 : World} {a : Option Addr} {n c : Nat} {l : List UInt8} (h : Bs w0 a n c l) (i j : Nat) (hij : i ≤ j) (hj : j ≤ n) :
    ∃ a' c', (∀ w, Sem.run Try.prog (Instr.slice 46 (.slice a n c) (some (.int .i64 (i : Int))) (some (.int .i64 (j : Int))) none) w = .ok (.slice a' (j - i) c') w) ∧
      (∀ w, Bs w a n c l → Bs w a' (j - i) c' ((l.drop i).take (j - i))) := by
  have hcap := h.cap
  refine ⟨if c = i then a else a.map (fun x => x.add (i * 1)), c - i, ?_, ?_⟩
  · intro w
    rw [run_slice_lh w 46 a n c under23 .i64 .i64 (i : Int) (j : Int) (by omega) (by omega) (by omega), sizeOf5]
    simp only [Result.andThen, sliced, Int.toNat_natCast]
  · intro w hb
    refine ⟨by simp [hb.len]; omega, by omega, Nat.le_trans (Nat.sub_le _ _) hb.2.2.1, ?_, ?_⟩
    · intro he
      by_cases hck : c = i
      · omega
      · rw [if_neg hck] at he
        simp at he
        have := hb.2.2.2.1 he
        omega
    · intro k hk
      obtain ⟨b, o, ha, hc⟩ := hb.2.2.2.2 (i + k) (by omega)
      subst ha
      refine ⟨b, o + i, ?_, ?_⟩
      · rw [if_neg (by omega)]
        simp only [Option.map_some, Nat.mul_one]
        unfold Addr.add
        split
        · subst_vars; rfl
        · rfl
      · rw [bt_take hk, bt_drop, show o + i + k = o + (i + k) from by omega]
        exact hc


theorem Bs.but {w w' : World} {r : Nat} {a : Option Addr} {n c : Nat} {l : List UInt8} (h : Bs w a n c l) (hg : w.grownBy w' (some r)) (hr : ∀ x, a = some x → x.block ≠ r) : Bs w' a n c l := by
  refine ⟨h.1, h.2.1, h.2.2.1, h.2.2.2.1, fun i hi => ?_⟩
  obtain ⟨b, o, ha, hc⟩ := h.2.2.2.2 i hi
  exact ⟨b, o, ha, hg.cell hc (by have := hr _ ha; simpa using this)⟩

end Go.Proofs.Ytcmbkpdefbaakaa
