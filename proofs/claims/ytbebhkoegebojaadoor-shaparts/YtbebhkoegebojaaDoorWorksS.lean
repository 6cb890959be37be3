/-
  The contract of 'works', the smoke that all statements of layer 2 end with: it answers true, and turns nothing that was there. Condition: the package's constants lie where they were laid.
-/
import Derived.Test.YtbebhkoegebojaaDoorOf
import Derived.Test.YtbebhkoegebojaaDoorHexO
import Derived.Test.YtbebhkoegebojaaDoorSame
import Derived.Lib.SlBytesConst
namespace Go.Proofs.YtbebhkoegebojaaDoor
open Go.RowKit

def abcD : List UInt8 := [186, 120, 22, 191, 143, 1, 207, 234, 65, 65, 64, 222, 93, 174, 34, 35, 176, 3, 97, 163, 150, 23, 122, 156, 180, 16, 255, 97, 242, 0, 21, 173]
theorem abc_sum : sumL [97, 98, 99] = abcD := sum_abc
theorem abc_hex : hexL abcD = [98, 97, 55, 56, 49, 54, 98, 102, 56, 102, 48, 49, 99, 102, 101, 97, 52, 49, 52, 49, 52, 48, 100, 101, 53, 100, 97, 101, 50, 50, 50, 51, 98, 48, 48, 51, 54, 49, 97, 51, 57, 54, 49, 55, 55, 97, 57, 99, 98, 52, 49, 48, 102, 102, 54, 49, 102, 50, 48, 48, 49, 53, 97, 100] := by decide

theorem conv2 (w : World) (o : Obj) (C : Array Value) (n c : Nat) : Sem.run Tryd.prog (convert 22 22 (.slice (some ⟨w.heap.size + 1, 0, none⟩) n c)) ((w.alloc o).alloc (.cells C 5)) = .ok (.slice (some ⟨w.heap.size + 1, 0, none⟩) n c) ((w.alloc o).alloc (.cells C 5 (C.size, C.size + 1))) := by
  have := Lib.run_convert_bytes_const (P := Tryd.prog) (w.alloc o) 22 5 C n c Tryd.underlying22 Tryd.underlying5
  rw [World.size_alloc] at this
  exact this
theorem Bss.two {w : World} {a1 a2 : Option Addr} {n1 c1 n2 c2 : Nat} {l1 l2 : List UInt8} (h1 : Bs w a1 n1 c1 l1) (h2 : Bs w a2 n2 c2 l2) :
    Bss (w.alloc (.cells #[.slice a1 n1 c1, .slice a2 n2 c2] 22)) (some ⟨w.heap.size, 0, none⟩) 2 2 [l1, l2] := by
  refine ⟨rfl, Nat.le_refl _, by unfold maxLen; omega, fun i hi => ?_⟩
  match i, hi with
  | 0, _ => exact ⟨w.heap.size, 0, a1, n1, c1, rfl, by rw [cell_new]; rfl, h1.below (below_alloc _ _) (Nat.le_refl _)⟩
  | 1, _ => exact ⟨w.heap.size, 0, a2, n2, c2, rfl, by rw [cell_new]; rfl, h2.below (below_alloc _ _) (Nat.le_refl _)⟩
theorem Bss.one1 {w : World} {a1 : Option Addr} {n1 c1 : Nat} {l1 : List UInt8} (h1 : Bs w a1 n1 c1 l1) :
    Bss (w.alloc (.cells #[.slice a1 n1 c1] 22)) (some ⟨w.heap.size, 0, none⟩) 1 1 [l1] := by
  refine ⟨rfl, Nat.le_refl _, by unfold maxLen; omega, fun i hi => ?_⟩
  match i, hi with
  | 0, _ => exact ⟨w.heap.size, 0, a1, n1, c1, rfl, by rw [cell_new]; rfl, h1.below (below_alloc _ _) (Nat.le_refl _)⟩

theorem wOf (w : World) (hK : Kon w) : Calls Tryd.prog 7 #[.slice (some ⟨w.heap.size + 1 + 1, 0, none⟩) 2 2] (((w.alloc (.cells #[.int .u8 97] 5 (1, 2))).alloc (.cells #[.int .u8 98, .int .u8 99] 5 (2, 3))).alloc (.cells #[.slice (some ⟨w.heap.size, 0, none⟩) 1 1, .slice (some ⟨w.heap.size + 1, 0, none⟩) 2 2] 22)) fun e w' =>
    e = .returned (.agg (cs abcD).toArray) ∧ Below w.heap.size w w' := by
  have m1 := (Bs.marked w [97] #[.int .u8 97] (1, 2) rfl (by simp)).below (below_alloc _ (.cells #[.int .u8 98, .int .u8 99] 5 (2, 3))) (Nat.le_refl _)
  have m2 := Bs.marked (w.alloc (.cells #[.int .u8 97] 5 (1, 2))) [98, 99] #[.int .u8 98, .int .u8 99] (2, 3) rfl (by simp)
  have h := Bss.two m1 m2
  simp only [World.size_alloc] at h
  have hb := below3 w (.cells #[.int .u8 97] 5 (1, 2)) (.cells #[.int .u8 98, .int .u8 99] 5 (2, 3)) (.cells #[.slice (some ⟨w.heap.size, 0, none⟩) 1 1, .slice (some ⟨w.heap.size + 1, 0, none⟩) 2 2] 22)
  have := oOf _ (hK.below hb hK.lt) h (by simp [tot])
  refine this.mono ?_
  rintro e w' ⟨rfl, hb'⟩
  refine ⟨?_, hb.trans (hb'.mono hb.size)⟩
  show Ending.returned (bv (sumL ([[97], [98, 99]] : List (List UInt8)).flatten)) = _
  rw [show ([[97], [98, 99]] : List (List UInt8)).flatten = [97, 98, 99] from rfl, abc_sum]
  rfl

theorem all24 (g : Nat) (w : World) : Sem.run Tryd.prog (Instr.sliceAt 24 (.pointer (some ⟨g, 0, none⟩)) none none none) w = .ok (.slice (some ⟨g, 0, none⟩) 32 32) w := by
  rw [run_sliceAt_array_all w 24 _ und24, el24]
  simp only [Result.andThen, slicedAt, len24]
  rfl

theorem cs_self {l : List UInt8} (j : Nat) (v : Value) (h : (cs l)[j]? = some v) : (cs l)[0 + j]? = some v := by rw [Nat.zero_add]; exact h

set_option maxHeartbeats 1000000 in
theorem lWorksS (w : World) (hK : Kon w) : Calls Tryd.prog 6 #[] w fun e w' => e = .returned (.bool true) ∧ Below w.heap.size w w' := by
  have kc := fun (w : World) (C : Array Value) (n c : Nat) => Lib.run_convert_bytes_const (P := Tryd.prog) w 22 5 C n c Tryd.underlying22 Tryd.underlying5
  have kc2 := conv2
  have HD : Hid ((cs abcD).length = 32) := by show _ = _; rw [cs_length]; rfl
  have hall := all24
  go_enter Tryd.func6, Tryd.ntmps6
  go_wp2_with (first
    | (go_at_call 7; refine (wOf w hK).mono ?_; rintro e w1 ⟨rfl, hb1⟩)
    | (with_reducible refine at_st 24 ?_; refine st' 24 (.tmp 1) (.tmp 7) 32 size24 w1.heap.size 0 _ HD.out cs_one ((Blk.new w1 z24 24).there 0 32 (by decide)) rfl rfl ?_; intro w2 hw2
       have b2 : Blk w2 w1.heap.size (cs abcD) 24 := by rw [hw2]; exact (Blk.new w1 z24 24).setsW _ (by rw [HD.out]; rfl)
       have hb2 : Below w.heap.size w w2 := by rw [hw2]; exact below_sets hb1.size _ (hb1.alloc hb1.size _) 0
       clear hw2
       have hB2 := b2.bs 0 32 abcD cs_self (by decide) (by omega))
    | (go_at_call 14; refine (oHex w2 hB2 (by decide)).mono ?_; rintro e w3 ⟨rfl, hb3⟩; rw [abc_hex]))
  go_ret
  exact ⟨rfl, hb2.trans (hb3.mono hb2.size)⟩

theorem sameT (w : World) {a b : Option Addr} {n c n' c' : Nat} {l : List UInt8} (ha : Bs w a n c l) (hb : Bs w b n' c' l) : Calls Tryd.prog 8 #[.slice a n c, .slice b n' c'] w fun e w' => e = .returned (.bool true) ∧ Below w.heap.size w w' := by
  have := rSame w ha hb
  rw [decide_eq_true rfl] at this
  refine this.mono ?_
  rintro e w' ⟨rfl, k, rfl⟩
  exact ⟨rfl, below_drewN' w k⟩

end Go.Proofs.YtbebhkoegebojaaDoor
