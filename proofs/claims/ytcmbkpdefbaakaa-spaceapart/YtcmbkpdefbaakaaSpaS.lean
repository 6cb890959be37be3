/-
  The contract of layer 15's reference's New. Conditions: none.
-/
import Derived.Test.YtcmbkpdefbaakaaSpaR
namespace Go.Proofs.Ytcmbkpdefbaakaa
open Go.RowKit

theorem sizeZ : (Try.prog.info? 30).map (·.size) = some 2 := by kernel_rfl
/-- A struct and a value handed back. -/
theorem resZ2 {fn : Func} {p t : Tmp} {ty : TypeId} (h : fn.results = #[.cell p ty, .tmp t]) (tmps : Array Value) (w : World) (g : Nat) (cs : Array Value) (hp : tmps.getD p undef = .pointer (some ⟨g, 0, none⟩)) (hl : (loadVar ty ⟨g, 0, none⟩).run Try.prog w = .ok (.agg cs) w) (x : Value) (hx : tmps.getD t undef = x) : (results fn tmps).run Try.prog w = .ok (.tuple #[.agg cs, x]) w := by
  have hp' : tmps[p]?.getD undef = .pointer (some ⟨g, 0, none⟩) := by simpa using hp
  have hx' : tmps[t]?.getD undef = x := by simpa using hx
  simp [results, h, hp', hx', asAddr, hl]
/-- No space: its value, where the numbers are not right. -/
theorem rNew15Not (w : World) (n f : Int) (h : n < 1 ∨ 4096 < n ∨ f < 0 ∨ n < f) : Calls Try.prog 8 #[.int .i64 n, .int .i64 f] w fun e w' => e = .returned (.tuple #[.agg #[.int .i64 0, .slice none 0 0], .int .i64 2]) ∧ Below w.heap.size w w' := by
  by_cases i1 : n < 1
  · clear h
    go_enter Try.func8, Try.ntmps8
    go_wp2_with fail
    exact bodyPost_ret (v := .tuple #[.agg #[.int .i64 0, .slice none 0 0], .int .i64 2]) (by simp [results, Try.results8, go_sem]) rfl ⟨rfl, below_alloc _ _⟩
  · by_cases i2 : 4096 < n
    · clear h
      go_enter Try.func8, Try.ntmps8
      go_wp2_with fail
      exact bodyPost_ret (v := .tuple #[.agg #[.int .i64 0, .slice none 0 0], .int .i64 2]) (by simp [results, Try.results8, go_sem]) rfl ⟨rfl, below_alloc _ _⟩
    · by_cases i3 : f < 0
      · clear h
        go_enter Try.func8, Try.ntmps8
        go_wp2_with fail
        exact bodyPost_ret (v := .tuple #[.agg #[.int .i64 0, .slice none 0 0], .int .i64 2]) (by simp [results, Try.results8, go_sem]) rfl ⟨rfl, below_alloc _ _⟩
      · have i4 : n < f := by omega
        clear h
        go_enter Try.func8, Try.ntmps8
        go_wp2_with fail
        exact bodyPost_ret (v := .tuple #[.agg #[.int .i64 0, .slice none 0 0], .int .i64 2]) (by simp [results, Try.results8, go_sem]) rfl ⟨rfl, below_alloc _ _⟩

set_option maxRecDepth 100000 in
set_option maxHeartbeats 1000000 in
theorem rNew15 (w : World) {A : Nat → Prop} (hA : ∀ j, w.heap.size ≤ j → A j) (n f : Nat) (h1 : 1 ≤ n) (h2 : n ≤ 4096) (h3 : f ≤ n) : Calls Try.prog 8 #[.int .i64 (n : Int), .int .i64 (f : Int)] w fun e w' => ∃ a c, e = .returned (.tuple #[.agg (zc (SpS.new n f) a c).toArray, .int .i64 0]) ∧ RZ A w' (SpS.new n f) a c ∧ Below w.heap.size w w' := by
  have i1 : ¬ (n : Int) < 1 := by omega
  have i2 : ¬ (4096 : Int) < (n : Int) := by omega
  have i3 : ¬ (f : Int) < 0 := by omega
  have i4 : ¬ (n : Int) < (f : Int) := by omega
  have HA : Hid (∀ j, w.heap.size ≤ j → A j) := hA
  clear hA
  have b0 : Blk ((w.alloc (.cells #[.int .i64 0, .slice none 0 0] 30)).alloc (.cells #[.int .i64 (f : Int), .slice none 0 0] 30)) w.heap.size [.int .i64 0, .slice none 0 0] 30 := (Blk.new w #[.int .i64 0, .slice none 0 0] 30).old _
  have b1 : Blk ((w.alloc (.cells #[.int .i64 0, .slice none 0 0] 30)).alloc (.cells #[.int .i64 (f : Int), .slice none 0 0] 30)) (w.heap.size + 1) [.int .i64 (f : Int), .slice none 0 0] 30 := Blk.newAt (w.alloc (.cells #[.int .i64 0, .slice none 0 0] 30)) _ _ _ (by simp) _ rfl
  have k0 : Below w.heap.size w ((w.alloc (.cells #[.int .i64 0, .slice none 0 0] 30)).alloc (.cells #[.int .i64 (f : Int), .slice none 0 0] 30)) := below2 _ _ _
  have s0 : w.heap.size + 2 ≤ ((w.alloc (.cells #[.int .i64 0, .slice none 0 0] 30)).alloc (.cells #[.int .i64 (f : Int), .slice none 0 0] 30)).heap.size := by simp
  obtain ⟨L, hL⟩ : ∃ L, L = (SpS.new n f).l := ⟨_, rfl⟩
  have HLn : Hid (L.length = n) := by show L.length = n; rw [hL, SpS.new_len]
  have HS : Hid (∀ k, k < n → L.take (k + 1) = L.take k ++ [decide (k < f)]) := fun k hk => by rw [hL]; exact map_stepN (fun i => decide (i < f)) hk
  have HR : Hid (SpS.new n f = ⟨f, L⟩) := by show _ = _; rw [hL]; rfl
  clear hL
  rw [HR.out]
  go_enter Try.func8, Try.ntmps8
  go_wp2_with fail
  go_loopw [7] (fun x wr => ∃ (k : Nat) (a : Option Addr) (m c : Nat), k ≤ n ∧ x = .int .i64 (k : Int) ∧ m = k ∧ Hid (OwnB wr (w.heap.size + 2) (.slice a m c) (L.take k)) ∧ Blk wr w.heap.size [.int .i64 0, .slice none 0 0] 30 ∧ Blk wr (w.heap.size + 1) [.int .i64 (f : Int), .slice a m c] 30 ∧ Below w.heap.size w wr ∧ w.heap.size + 2 ≤ wr.heap.size) (fun x _ => n - (intOf x).toNat)
  case atStart => exact ⟨0, none, 0, 0, by omega, rfl, rfl, OwnB.nil _ _, b0, b1, k0, s0⟩
  case round =>
    clear b0 b1 k0 s0
    obtain ⟨k, a, m, c, hk, rfl, rfl, HO, bZ, bX, kb, hs⟩ := hrel
    by_cases hlt : m < n
    · have j1 : (m : Int) < (n : Int) := by omega
      obtain ⟨bit, hbit⟩ : ∃ bit, bit = decide (m < f) := ⟨_, rfl⟩
      have e1 : decide ((m : Int) < (f : Int)) = bit := by rw [hbit]; simp
      have e2 : decide (m < f) = bit := hbit.symm
      have HE : Hid (L.take (m + 1) = L.take m ++ [bit]) := by show _ = _; rw [hbit]; exact HS.out m hlt
      have hr : (L.take m).length + 1 ≤ 1000000000 := by
        have := List.length_take_le' m L
        have := HLn.out
        omega
      have d0 : wr.cell? ⟨w.heap.size + 1, 1, none⟩ = some (.slice a m c) := bX.cell 1
      have hlX := bX.lt
      have HX : Hid (Blk wr (w.heap.size + 1) [.int .i64 (f : Int), .slice a m c] 30) := bX
      have HZ : Hid (Blk wr w.heap.size [.int .i64 0, .slice none 0 0] 30) := bZ
      have HK : Hid (Below w.heap.size w wr) := kb
      have Hs : Hid (w.heap.size + 2 ≤ wr.heap.size) := hs
      clear hbit bX bZ kb hs
      go_wp2_with (at_builtin; go_must (refine wpList_bapp (wr.alloc (.cells #[.bool bit] 4)) rfl (.tmp 32) (.tmp 36) rfl (w.heap.size + 2) _ _ rfl (HO.out.below (below_alloc _ _) (Nat.le_refl _)) ⟨wr.heap.size, 0, none⟩ 1 1 [bit] rfl (bo_made wr bit) hr (by have := Hs.out; simp; omega) ?_); intro v2 w2 ho2 hb2; have hb3 : Below (w.heap.size + 2) wr w2 := (below_alloc wr (.cells #[.bool bit] 4)).mono Hs.out |>.trans hb2; have bX2 := HX.out.below hb3 (by omega); have d2 := bX2.cell 1; have z2 := bX2.free 1; have l2 := bX2.lt; obtain ⟨a2, m2, c2, rfl, hm2⟩ := ho2.shape; have HM : Hid (m2 = (L.take m ++ [bit]).length) := hm2; clear hm2)
      have hm2 : m2 = m + 1 := by rw [HM.out, ← HE.out, List.length_take, HLn.out]; omega
      have hset := but_set w2 (w.heap.size + 1) 1 (.slice a2 m2 c2)
      have HO2 : Hid (OwnB (w2.setCell ⟨w.heap.size + 1, 1, none⟩ (.slice a2 m2 c2)) (w.heap.size + 2) (.slice a2 m2 c2) (L.take (m + 1))) := by rw [HE.out]; exact ho2.grown hset (by omega)
      have bZ2 := HZ.out.below hb3 (by omega)
      have b9 := bX2.setC 1 (.slice a2 m2 c2)
      have b8 := bZ2.setO (p := ⟨w.heap.size + 1, 1, none⟩) (by simp) (.slice a2 m2 c2)
      have k9 : Below w.heap.size w (w2.setCell ⟨w.heap.size + 1, 1, none⟩ (.slice a2 m2 c2)) := (HK.out.trans (hb3.mono (by omega))).setCell (p := ⟨w.heap.size + 1, 1, none⟩) (by show w.heap.size ≤ w.heap.size + 1; omega) _
      have s9 : w.heap.size + 2 ≤ (w2.setCell ⟨w.heap.size + 1, 1, none⟩ (.slice a2 m2 c2)).heap.size := by
        have h := hb3.size
        have h' := Hs.out
        simp [World.setCell]
        omega
      go_roundw
      case rel => exact ⟨m + 1, a2, m2, c2, by omega, by go_num, hm2, HO2, b8, b9, k9, s9⟩
      case measure => simp [intOf]; omega
    · obtain rfl : m = n := by omega
      have j1 : ¬ (m : Int) < (m : Int) := by omega
      have d0 : wr.cell? ⟨w.heap.size + 1, 0, none⟩ = some (.int .i64 (f : Int)) := bX.cell 0
      have d1 : wr.cell? ⟨w.heap.size + 1, 1, none⟩ = some (.slice a m c) := bX.cell 1
      have y0 : wr.cell? ⟨w.heap.size, 0, none⟩ = some (.int .i64 0) := bZ.cell 0
      have y1 : wr.cell? ⟨w.heap.size, 1, none⟩ = some (.slice none 0 0) := bZ.cell 1
      have z0 := bZ.free 0
      have z1 := bZ.free 1
      have hlX := bX.lt
      have HZ : Hid (Blk wr w.heap.size [.int .i64 0, .slice none 0 0] 30) := bZ
      have HK : Hid (Below w.heap.size w wr) := kb
      have ho : OwnB wr (w.heap.size + 2) (.slice a m c) L := by
        have h := HO.out
        rw [List.take_of_length_le (by rw [HLn.out]; exact Nat.le_refl _)] at h
        exact h
      have HP : Hid (RZ A ((wr.setCell ⟨w.heap.size, 0, none⟩ (.int .i64 (f : Int))).setCell ⟨w.heap.size, 1, none⟩ (.slice a m c)) ⟨f, L⟩ a c) :=
        OwnB.rz (S := ⟨f, L⟩) ((ho.grown (but_set wr w.heap.size 0 (.int .i64 (f : Int))) (by omega)).grown (but_set _ w.heap.size 1 (.slice a m c)) (by omega)) (fun j hj => HA.out j (by omega))
      have H9 : Hid (Blk ((wr.setCell ⟨w.heap.size, 0, none⟩ (.int .i64 (f : Int))).setCell ⟨w.heap.size, 1, none⟩ (.slice a m c)) w.heap.size [.int .i64 (f : Int), .slice a m c] 30) := (HZ.out.setC 0 (.int .i64 (f : Int))).setC 1 (.slice a m c)
      have K9 : Hid (Below w.heap.size w ((wr.setCell ⟨w.heap.size, 0, none⟩ (.int .i64 (f : Int))).setCell ⟨w.heap.size, 1, none⟩ (.slice a m c))) := (HK.out.setCell (p := ⟨w.heap.size, 0, none⟩) (Nat.le_refl _) _).setCell (p := ⟨w.heap.size, 1, none⟩) (Nat.le_refl _) _
      clear bX bZ kb HO ho HK HZ
      go_wp2_with fail
      refine bodyPost_ret (v := .tuple #[.agg #[.int .i64 (f : Int), .slice a m c], .int .i64 0]) (resZ2 Try.results8 _ _ w.heap.size _ rfl (run_loadVar_row _ w.heap.size 30 30 _ (0, 0) _ H9.out Try.underlying30 rfl sizeZ) _ rfl) rfl ⟨a, c, ?_, HP.out, K9.out⟩
      unfold zc
      dsimp only
      rw [HLn.out]

end Go.Proofs.Ytcmbkpdefbaakaa
