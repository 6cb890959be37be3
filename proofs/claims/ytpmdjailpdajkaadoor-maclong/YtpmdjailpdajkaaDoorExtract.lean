/-
  The contract of Extract: the sum of a text under a salt, as a slice. Conditions: the package's constants lie where they were laid; rows of at most 90000 bytes.
-/
import Derived.Test.YtpmdjailpdajkaaDoorMacOf
namespace Go.Proofs.YtpmdjailpdajkaaDoor
open Go.RowKit

theorem oMac1 (w : World) (hK : Kon w) {a b : Option Addr} {n c m q : Nat} {l t : List UInt8} (ha : Bs w a n c l) (hz : n ≤ 90000) (hb : Bs w b m q t) (hm : m ≤ 90000) :
    Calls Tryd.prog 9 #[.slice a n c, .slice (some ⟨w.heap.size, 0, none⟩) 1 1] (w.alloc (.cells #[.slice b m q] 22)) fun e w' => e = .returned (.agg (cs (macL l t)).toArray) ∧ Below w.heap.size w w' := by
  have hb' := below_alloc w (.cells #[.slice b m q] 22)
  have := oMac _ (hK.below hb' hK.lt) (ha.below hb' (Nat.le_refl _)) hz (Bss.one1 hb) (by have := hb.len; simp [tot]; omega)
  refine this.mono ?_
  rintro e w' ⟨rfl, hb2⟩
  refine ⟨?_, hb'.trans (hb2.mono hb'.size)⟩
  simp
theorem cs_mac (l t : List UInt8) : (cs (macL l t)).length = 32 := by rw [cs_length, macL_length]

set_option maxHeartbeats 1000000 in
theorem oExtract (w : World) (hK : Kon w) {a b : Option Addr} {n c m q : Nat} {l t : List UInt8} (ha : Bs w a n c l) (hz : n ≤ 90000) (hb : Bs w b m q t) (hm : m ≤ 90000) :
    Calls Tryd.prog 13 #[.slice a n c, .slice b m q] w fun e w' => ∃ g, e = .returned (.slice (some ⟨g, 0, none⟩) 32 32) ∧ Bs w' (some ⟨g, 0, none⟩) 32 32 (macL l t) ∧ Below w.heap.size w w' := by
  have hall := all24
  have HO : Hid ((cs (macL l t)).length = 32) := cs_mac l t
  have C1 : Hid (Calls Tryd.prog 9 #[.slice a n c, .slice (some ⟨w.heap.size, 0, none⟩) 1 1] (w.alloc (.cells #[.slice b m q] 22)) fun e w' => e = .returned (.agg (cs (macL l t)).toArray) ∧ Below w.heap.size w w') := oMac1 w hK ha hz hb hm
  go_enter Tryd.func13, Tryd.ntmps13
  go_wp2_with (first
    | (go_at_call 9; refine C1.out.mono ?_; rintro e w1 ⟨rfl, hb1⟩)
    | (with_reducible refine at_st 26 ?_; refine st' 26 (.tmp 5) (.tmp 9) 32 size24 w1.heap.size 0 _ HO.out cs_one ((Blk.new w1 z24 26).there 0 32 (by decide)) rfl rfl ?_; intro w2 hw2
       have b5 : Blk w2 w1.heap.size (cs (macL l t)) 26 := by rw [hw2]; exact (Blk.new w1 z24 26).setsW _ (by rw [HO.out]; rfl)
       have hb2 : Below w.heap.size w w2 := by rw [hw2]; exact below_sets hb1.size _ (hb1.alloc hb1.size _) 0
       clear hw2))
  go_ret
  exact ⟨w1.heap.size, rfl, blk32 b5 (macL_length l t), hb2⟩

end Go.Proofs.YtpmdjailpdajkaaDoor
