/-
  8 texts in one. No statement of the seat is proved here.
-/
import Derived.Test.YtlenmkhmkommcaaGreatG8
import Derived.Deep.RegionWith
import Derived.Deep.RegionHeld3
import Derived.Deep.DrawnRows
import Derived.Deep.DeepCutAuto
/-
  The contracts of 'powersOfThree' and 'inverses'. No condition.
-/
namespace Go.Proofs.YtlenmkhmkommcaaGreat
open Go.RowKit

theorem p3s_length : p3s.length = 255 := by simp [p3s]
theorem p3s_at {k : Nat} (h : k < 255) : p3s.getD k 0 = p3 k := by simp [p3s, List.getD_eq_getElem?_getD, h]
theorem sizeP : (Tryz.prog.info? 174).map (·.size) = some 255 := by kernel_rfl
theorem sizeB : (Tryz.prog.info? 138).map (·.size) = some 256 := by kernel_rfl
/-- So many noughts as cells, a name of its own. -/
def zarr (n : Nat) : Array Value := (cs (List.replicate n 0)).toArray
theorem zarr_toList (n : Nat) : (zarr n).toList = cs (List.replicate n 0) := rfl
theorem zarr_ne {n : Nat} (h : 0 < n) : ¬ zarr n = #[] := by
  intro e
  have := congrArg Array.size e
  simp [zarr, cs] at this
  omega
theorem zeroP : Tryz.zeroCells174 = zarr 255 := by kernel_rfl
theorem zeroB : Tryz.zeroCells138 = zarr 256 := by kernel_rfl
attribute [local go_sem] zeroP zeroB

theorem p3_step (k : Nat) : bits .xor .u8 ((p3 k).toNat : Int) ((dbl (p3 k)).toNat : Int) = ((p3 (k + 1)).toNat : Int) := by
  rw [xor_u8]
  rfl

set_option maxHeartbeats 1000000 in
theorem oPowers (w : World) :
    Calls Tryz.prog 100 #[] w fun e w' => e = .returned (.agg (cs p3s).toArray) ∧ Below w.heap.size w w' := by
  have hne := zarr_ne (n := 255) (by omega)
  go_enter Tryz.func100, Tryz.ntmps100
  go_wp2_with fail
  obtain ⟨W2, hW2⟩ : ∃ W2, W2 = (w.alloc (.cells (zarr 255) 174)).alloc (.cells (zarr 255) 174) := ⟨_, rfl⟩
  rw [← hW2]
  have d0 : Blk W2 w.heap.size (cs (List.replicate 255 0)) 174 := by rw [hW2, ← zarr_toList]; exact (Blk.new w _ _).old _
  have d1 : Blk W2 (w.heap.size + 1) (cs (fill p3s 255 0)) 174 := by rw [hW2, fill_zero, ← zarr_toList]; exact Blk.newAt (w.alloc _) _ _ _ (by simp) _ rfl
  have hd : Below w.heap.size w W2 := by rw [hW2]; exact below2 w _ _
  clear hW2
  go_loopw [2, 3, 4] (fun x _ i wr => ∃ k : Nat, k ≤ 255 ∧ i = .int .i64 k ∧ x = .int .u8 ((p3 k).toNat : Int) ∧ Blk wr w.heap.size (cs (List.replicate 255 0)) 174 ∧ Blk wr (w.heap.size + 1) (cs (fill p3s 255 k)) 174 ∧ Below w.heap.size w wr) (fun _ _ i _ => 255 - (intOf i).toNat)
  case atStart => exact ⟨0, by omega, rfl, rfl, d0, d1, hd⟩
  case round =>
    clear d0 d1 hd
    obtain ⟨k, hk, rfl, rfl, b0, b1, hb⟩ := hrel
    by_cases hlt : k < 255
    · have h0 : (0 : Int) ≤ (k : Int) := by omega
      have h8 : (k : Int) < 255 := by omega
      have c1 := b1.at8 (k := k) (by rw [fill_length p3s_length hk]; exact hlt)
      have f1 := b1.free k
      have b2 := b1.set8 k (p3 k)
      rw [← p3s_at hlt, fill_set p3s_length hlt, p3s_at hlt] at b2
      have B2 : Hid (Blk (wr.setCell ⟨w.heap.size + 1, k, none⟩ (.int .u8 ((p3 k).toNat : Int))) (w.heap.size + 1) (cs (fill p3s 255 (k + 1))) 174) := b2
      have HS : Hid (_ = _) := p3_step k
      clear b2
      go_wp2_with (go_at_call 71; refine (oDoubled _ _).mono ?_; rintro e w1 ⟨rfl, rfl⟩)
      go_roundw
      case rel => exact ⟨k + 1, by omega, by go_num, by rw [HS.out], b0.setO (by simp) _, B2.out, hb.setCell (by simp) _⟩
      case measure => simp [intOf]; omega
    · obtain rfl : k = 255 := by omega
      rw [fill_end p3s_length] at b1
      have HL : Hid ((cs p3s).length = 255) := by show _ = _; rw [cs_length, p3s_length]
      obtain ⟨L, hLe⟩ : ∃ L, L = p3s := ⟨_, rfl⟩
      rw [← hLe] at b1 HL
      have HE : Hid (L = p3s) := hLe
      clear hLe
      go_wp2_with (first
        | (with_reducible refine at_ld 174 ?_; refine ld 174 (.tmp 1) 255 sizeP _ Tryz.underlying174 rfl (w.heap.size + 1) 0 _ HL.out b1.whole rfl ?_)
        | (with_reducible refine at_st 174 ?_; refine st 174 (.tmp 0) (.tmp 15) 255 sizeP w.heap.size 0 _ HL.out cs_one (b0.there 0 255 (by rw [cs_length, List.length_replicate]; omega)) rfl rfl ?_))
      have b3 := b0.setsW (cs L) (by rw [HL.out, cs_length, List.length_replicate])
      exact bodyPost_ret (v := .agg (cs L).toArray) (res_blk Tryz.results100 _ _ w.heap.size _ _ _ rfl b3 Tryz.underlying174 255 HL.out sizeP) rfl ⟨by rw [HE.out], below_sets (Nat.le_refl _) _ hb 0⟩

/-- An element of a row of bytes. -/
theorem idx8 (ty : TypeId) (n : Nat) (hu : Tryz.prog.underlying ty = some (.array n 5)) (l : List UInt8) (k : Nat) (hl : l.length = n) (hk : k < n) (w : World) :
    Sem.run Tryz.prog (Instr.index ty (.agg (cs l).toArray) (.int .i64 (k : Int))) w = .ok (.int .u8 ((l.getD k 0).toNat : Int)) w := by
  simp [Instr.index, asIntOf, run_underlying hu, part, cs_at (show k < l.length by omega)]
  omega

theorem invS_length (k : Nat) : (invS k).length = 256 := by
  induction k with
  | zero => rw [invS, List.length_replicate]
  | succ k ih => rw [invS, List.length_set, ih]

set_option maxRecDepth 100000 in
set_option maxHeartbeats 1000000 in
theorem oInverses (w : World) :
    Calls Tryz.prog 69 #[] w fun e w' => e = .returned (.agg (cs (invS 255)).toArray) ∧ Below w.heap.size w w' := by
  have hne := zarr_ne (n := 255) (by omega)
  have hne' := zarr_ne (n := 256) (by omega)
  obtain ⟨L, hLe⟩ : ∃ L, L = p3s := ⟨_, rfl⟩
  have HLE : Hid (L = p3s) := hLe
  have hLL : L.length = 255 := by rw [hLe]; exact p3s_length
  have HL : Hid ((cs L).length = 255) := by show _ = _; rw [cs_length, hLL]
  have HN : Hid (L.length = 255) := hLL
  have CP : Hid (∀ w, Calls Tryz.prog 100 #[] w fun e w' => e = .returned (.agg (cs L).toArray) ∧ Below w.heap.size w w') := fun w => by rw [hLe]; exact oPowers w
  clear hLe hLL
  go_enter Tryz.func69, Tryz.ntmps69
  go_wp2_with (first
    | (go_at_call 100; refine (CP.out _).mono ?_; rintro e w1 ⟨rfl, hb1⟩)
    | (with_reducible refine at_st 174 ?_; refine st' 174 (.tmp 1) (.tmp 5) 255 sizeP w1.heap.size 0 _ HL.out cs_one ((Blk.new w1 (zarr 255) 174).there 0 255 (by rw [zarr_toList, cs_length, List.length_replicate]; omega)) rfl rfl ?_; intro w2 hw2
       have hs1 : w.heap.size + 1 ≤ w1.heap.size := by have := hb1.size; simpa using this
       have c0 : Blk w1 w.heap.size (cs (List.replicate 256 0)) 138 := (Blk.new w (zarr 256) 138).below hb1 (by simp)
       have c1 : Blk w2 w1.heap.size (cs L) 174 := by rw [hw2]; exact (Blk.new w1 (zarr 255) 174).setsW _ (by rw [HL.out, zarr_toList, cs_length, List.length_replicate])
       have c2 : Blk w2 w.heap.size (cs (List.replicate 256 0)) 138 := by rw [hw2]; exact Blk.setsO (by omega) _ (c0.old _) 0
       have hs2 : w2.heap.size = w1.heap.size + 1 := by rw [hw2, size_sets]; simp
       have hb2 : Below w.heap.size w w2 := by rw [hw2]; exact below_sets (by omega) _ (((below_alloc w _).trans (hb1.mono (by simp))).alloc (by omega) _) 0
       clear hw2 c0 hb1)
    | (with_reducible refine at_ld 174 ?_; refine ld 174 (.tmp 1) 255 sizeP _ Tryz.underlying174 rfl w1.heap.size 0 _ HL.out (c1.old _).whole rfl ?_))
  obtain ⟨W3, hW3⟩ : ∃ W3, W3 = w2.alloc (.cells (zarr 256) 138) := ⟨_, rfl⟩
  rw [← hW3]
  have d0 : Blk W3 w.heap.size (cs (List.replicate 256 0)) 138 := by rw [hW3]; exact c2.old _
  have d1 : Blk W3 w1.heap.size (cs L) 174 := by rw [hW3]; exact c1.old _
  have d2 : Blk W3 w2.heap.size (cs (invS 0)) 138 := by rw [hW3]; exact Blk.new w2 (zarr 256) _
  have hd : Below w.heap.size w W3 := by rw [hW3]; exact hb2.alloc hb2.size _
  clear hW3 c1 c2 hb2
  rw [hs2] at d2
  generalize hg1 : w1.heap.size = g1 at *
  clear hg1 hs2
  go_loopw [3, 4, 7] (fun _ _ i wr => ∃ k : Nat, k ≤ 255 ∧ i = .int .i64 k ∧ Blk wr w.heap.size (cs (List.replicate 256 0)) 138 ∧ Blk wr g1 (cs L) 174 ∧ Blk wr (g1 + 1) (cs (invS k)) 138 ∧ Below w.heap.size w wr) (fun _ _ i _ => 255 - (intOf i).toNat)
  case atStart => exact ⟨0, by omega, rfl, d0, d1, d2, hd⟩
  case round =>
    clear d0 d1 d2 hd
    obtain ⟨k, hk, rfl, b0, b1, b2, hb⟩ := hrel
    by_cases hlt : k < 255
    · have h0 : (0 : Int) ≤ (k : Int) := by omega
      have h8 : (k : Int) < 255 := by omega
      have hix := idx8 174 255 Tryz.underlying174 L k HN.out hlt
      obtain ⟨j, hj⟩ : ∃ j, j = (255 - k) % 255 := ⟨_, rfl⟩
      have hjl : j < 255 := by omega
      have hj0 : ((255 : Int) - (k : Int)) % 255 = (j : Int) := by omega
      have hj1 : ((255 : Int) - (k : Int)).tmod 255 = (j : Int) := by rw [Int.tmod_eq_emod_of_nonneg (by omega)]; omega
      have hj2 : (0 : Int) ≤ (j : Int) := by omega
      have hj3 : (j : Int) < 255 := by omega
      have c1 := b1.at8 (k := j) (by rw [HN.out]; exact hjl)
      have HI : Hid (invS (k + 1) = (invS k).set (L.getD k 0).toNat (L.getD j 0)) := by show _ = _; rw [HLE.out, hj, invS]
      obtain ⟨c, hc⟩ : ∃ c, c = L.getD k 0 := ⟨_, rfl⟩
      obtain ⟨y, hy⟩ : ∃ y, y = L.getD j 0 := ⟨_, rfl⟩
      rw [← hc] at hix HI
      rw [← hy] at c1 HI
      clear hc hy hj
      have hcl := b_lt c
      have hc0 : (0 : Int) ≤ (c.toNat : Int) := by omega
      have hc1 : (c.toNat : Int) < 256 := by omega
      have c2 := b2.at8 (k := c.toNat) (by rw [invS_length]; exact hcl)
      have f2 := b2.free c.toNat
      have e2 := b2.set8 c.toNat y
      rw [← HI.out] at e2
      have E2 : Hid (Blk (wr.setCell ⟨g1 + 1, c.toNat, none⟩ (.int .u8 (y.toNat : Int))) (g1 + 1) (cs (invS (k + 1))) 138) := e2
      clear e2 HI
      go_wp2_with fail
      go_roundw
      case rel => exact ⟨k + 1, by omega, by go_num, b0.setO (by simp; omega) _, b1.setO (by simp) _, E2.out, hb.setCell (by simp; omega) _⟩
      case measure => simp [intOf]; omega
    · obtain rfl : k = 255 := by omega
      obtain ⟨X, hX⟩ : ∃ X, X = invS 255 := ⟨_, rfl⟩
      have HXL : Hid ((cs X).length = 256) := by show _ = _; rw [hX, cs_length, invS_length]
      have HX : Hid (X = invS 255) := hX
      rw [← hX] at b2
      clear hX
      go_wp2_with (first
        | (with_reducible refine at_ld 138 ?_; refine ld 138 (.tmp 2) 256 sizeB _ Tryz.underlying138 rfl (g1 + 1) 0 _ HXL.out b2.whole rfl ?_)
        | (with_reducible refine at_st 138 ?_; refine st 138 (.tmp 0) (.tmp 19) 256 sizeB w.heap.size 0 _ HXL.out cs_one (b0.there 0 256 (by rw [cs_length, List.length_replicate]; omega)) rfl rfl ?_))
      have b3 := b0.setsW (cs X) (by rw [HXL.out, cs_length, List.length_replicate])
      exact bodyPost_ret (v := .agg (cs X).toArray) (res_blk Tryz.results69 _ _ w.heap.size _ _ _ rfl b3 Tryz.underlying138 256 HXL.out sizeB) rfl ⟨by rw [HX.out], below_sets (Nat.le_refl _) _ hb 0⟩

end Go.Proofs.YtlenmkhmkommcaaGreat

/-
  The box by the powers of three is the box by its definition, at all bytes (reckoned by the kernel). No condition; nothing of the program.
-/
namespace Go.Proofs.YtlenmkhmkommcaaGreat
open Go.RowKit

set_option maxRecDepth 100000 in
theorem inv_tab : (List.range 256).map (fun c => inv (UInt8.ofNat c)) = invS 255 := by decide +kernel
theorem bent_box (x : UInt8) : bent x = bxs x 8 := by
  have h : ∀ n : Fin 256, bent (UInt8.ofNat n.val) = bxs (UInt8.ofNat n.val) 8 := by decide +kernel
  have := h ⟨x.toNat, UInt8.toNat_lt x⟩
  simpa using this
theorem box_tab : (invS 255).map bent = boxT := by
  rw [← inv_tab, List.map_map]
  unfold boxT
  apply List.map_congr_left
  intro c _
  exact bent_box _

end Go.Proofs.YtlenmkhmkommcaaGreat

/-
  The contracts of 'Build' and 'Box'. No condition but that the tables lie where the pointer leads.
-/
namespace Go.Proofs.YtlenmkhmkommcaaGreat
open Go.RowKit

theorem builtT : Tryz.prog.built 140 [] = some (zarr 512) := by kernel_rfl

/-- The tables, behind so many bytes. -/
def tabs (i j : Nat) : List UInt8 := fill boxT 256 i ++ fill twT 256 j
theorem tabs_length {i j : Nat} (hi : i ≤ 256) (hj : j ≤ 256) : (tabs i j).length = 512 := by
  rw [tabs, List.length_append, fill_length boxT_length hi, fill_length twT_length hj]
theorem tabs_box {k : Nat} (hk : k < 256) : (tabs k k).set k (boxT.getD k 0) = tabs (k + 1) k := by
  rw [tabs, List.set_append_left _ _ (by rw [fill_length boxT_length (by omega)]; exact hk), fill_set boxT_length hk, tabs]
theorem tabs_tw {k : Nat} (hk : k < 256) : (tabs (k + 1) k).set (256 + k) (twT.getD k 0) = tabs (k + 1) (k + 1) := by
  rw [tabs, List.set_append_right _ _ (by rw [fill_length boxT_length (by omega)]; omega), fill_length boxT_length (by omega), Nat.add_sub_cancel_left, fill_set twT_length hk, tabs]
theorem tabs_zero : tabs 0 0 = List.replicate 512 0 := by
  rw [tabs, fill_zero, fill_zero, List.replicate_append_replicate]
theorem tabs_end : tabs 256 256 = tabT := by
  rw [tabs, fill_end boxT_length, fill_end twT_length, tabT]
theorem boxT_at {k : Nat} (hk : k < 256) : bent ((invS 255).getD k 0) = boxT.getD k 0 := by
  rw [← box_tab, List.getD_eq_getElem?_getD, List.getD_eq_getElem?_getD, List.getElem?_map, List.getElem?_eq_getElem (by rw [invS_length]; exact hk)]
  rfl
theorem wrap_byte (k : Nat) (hk : k < 256) : IntKind.u8.wrap (k : Int) = (k : Int) := by
  rw [IntKind.wrap_u8]
  omega
theorem twT_at {k : Nat} (hk : k < 256) : dbl (UInt8.ofNat k) = twT.getD k 0 := by
  simp [twT, List.getD_eq_getElem?_getD, hk]

set_option maxRecDepth 100000 in
set_option maxHeartbeats 1000000 in
theorem oBuild (w : World) :
    Calls Tryz.prog 34 #[] w fun e w' => ∃ r, e = .returned (.pointer (some ⟨r, 0, none⟩)) ∧ w.heap.size ≤ r ∧ Blk w' r (cs tabT) 140 ∧ Below w.heap.size w w' := by
  have hne := zarr_ne (n := 512) (by omega)
  obtain ⟨L, hLe⟩ : ∃ L, L = invS 255 := ⟨_, rfl⟩
  have HN : Hid (L.length = 256) := by show _ = _; rw [hLe, invS_length]
  have HB : Hid (∀ k, k < 256 → bent (L.getD k 0) = boxT.getD k 0) := fun k hk => by rw [hLe]; exact boxT_at hk
  have CP : Hid (∀ w, Calls Tryz.prog 69 #[] w fun e w' => e = .returned (.agg (cs L).toArray) ∧ Below w.heap.size w w') := fun w => by rw [hLe]; exact oInverses w
  clear hLe
  go_enter Tryz.func34, Tryz.ntmps34
  go_wp2_with (first
    | (go_at_call 69; refine (CP.out _).mono ?_; rintro e w1 ⟨rfl, hb1⟩)
    | (with_reducible refine at_bd 140 ?_; refine bd 140 #[] [] (zarr 512) rfl builtT ?_))
  have d0 : Blk w1 w.heap.size (cs (tabs 0 0)) 140 := by rw [tabs_zero]; exact (Blk.new w (zarr 512) _).below hb1 (by simp)
  have hd : Below w.heap.size w w1 := (below_alloc w _).trans (hb1.mono (by simp))
  clear hb1
  go_loopw [2, 3, 7] (fun _ _ i wr => ∃ k : Nat, k ≤ 256 ∧ i = .int .i64 k ∧ Blk wr w.heap.size (cs (tabs k k)) 140 ∧ Below w.heap.size w wr) (fun _ _ i _ => 256 - (intOf i).toNat)
  case atStart => exact ⟨0, by omega, rfl, d0, hd⟩
  case round =>
    clear d0 hd
    obtain ⟨k, hk, rfl, b0, hb⟩ := hrel
    by_cases hlt : k < 256
    · have h0 : (0 : Int) ≤ (k : Int) := by omega
      have h8 : (k : Int) < 256 := by omega
      have hix := idx8 138 256 Tryz.underlying138 L k HN.out hlt
      have HX := HB.out k hlt
      obtain ⟨x, hx⟩ : ∃ x, x = L.getD k 0 := ⟨_, rfl⟩
      rw [← hx] at hix HX
      clear hx
      have c0 := b0.at8 (k := k) (by rw [tabs_length hk hk]; omega)
      have f0 := b0.free k
      have b1 := b0.set8 k (bent x)
      rw [HX, tabs_box hlt, ← HX] at b1
      have c1 := b1.at8 (k := 256 + k) (by rw [tabs_length (by omega) hk]; omega)
      have f1 := b1.free (256 + k)
      have b2 := b1.set8 (256 + k) (dbl (UInt8.ofNat k))
      rw [twT_at hlt, tabs_tw hlt, ← twT_at hlt] at b2
      obtain ⟨bx, hbx⟩ : ∃ bx, bx = bent x := ⟨_, rfl⟩
      have CB : Hid (∀ w, Calls Tryz.prog 70 #[.int .u8 (x.toNat : Int)] w fun e w' => e = .returned (.int .u8 (bx.toNat : Int)) ∧ w = w') := fun w => by rw [hbx]; exact oBent w x
      have CD : Hid (∀ w, Calls Tryz.prog 71 #[.int .u8 (IntKind.u8.wrap (k : Int))] w fun e w' => e = .returned (.int .u8 ((dbl (UInt8.ofNat k)).toNat : Int)) ∧ w = w') := fun w => by
        have := oDoubled w (UInt8.ofNat k)
        rw [UInt8.toNat_ofNat', Nat.mod_eq_of_lt (by omega)] at this
        rw [show IntKind.u8.wrap (k : Int) = (k : Int) from wrap_byte k hlt]
        exact this
      rw [← hbx] at b1 b2 c1 f1
      clear hbx HX
      generalize hdb : dbl (UInt8.ofNat k) = db at *
      clear hdb
      have B2 : Hid _ := b2
      clear b2 b1
      go_wp2_with fail
      go_region_with (go_at_call 70; refine (CB.out _).mono ?_; rintro e w2 ⟨rfl, rfl⟩)
      go_wp2_with fail
      go_region_with (go_at_call 71; refine (CD.out _).mono ?_; rintro e w2 ⟨rfl, rfl⟩)
      go_wp2_with fail
      go_roundw
      case rel => exact ⟨k + 1, by omega, by go_num, B2.out, (((hb.setCell (by simp) _).setCell (by simp) _).drew).drew⟩
      case measure => simp [intOf]; omega
    · obtain rfl : k = 256 := by omega
      rw [tabs_end] at b0
      go_wp2_with fail
      go_ret
      exact ⟨_, rfl, Nat.le_refl _, b0, hb⟩

/-- The tables lie at the head of block g. -/
def Tab (w : World) (g : Nat) : Prop := w.rangeAt g 0 (cs tabT)
theorem Tab.box {w : World} {g : Nat} (h : Tab w g) (x : UInt8) : w.cell? ⟨g, x.toNat, none⟩ = some (.int .u8 ((box x).toNat : Int)) := by
  have hx := b_lt x
  have := h x.toNat _ (cs_get (by rw [tabT_length]; omega))
  rw [Nat.zero_add, tab_box] at this
  exact this
theorem Tab.tw {w : World} {g : Nat} (h : Tab w g) (x : UInt8) : w.cell? ⟨g, 256 + x.toNat, none⟩ = some (.int .u8 ((dbl x).toNat : Int)) := by
  have hx := b_lt x
  have := h (256 + x.toNat) _ (cs_get (by rw [tabT_length]; omega))
  rw [Nat.zero_add, tab_tw] at this
  exact this
theorem Tab.lt {w : World} {g : Nat} (h : Tab w g) : g < w.heap.size := lt_of_cell (h.box 0)
theorem Tab.below {w w' : World} {g : Nat} (h : Tab w g) {B : Nat} (hb : Below B w w') (hB : g < B) : Tab w' g := fun j v hv => by
  rw [hb.cell (p := ⟨g, 0 + j, none⟩) hB]
  exact h j v hv
theorem Tab.dr {w : World} {g : Nat} (h : Tab w g) : Tab w.drew g := h
theorem Blk.tab {w : World} {g : Nat} {t : TypeId} (h : Blk w g (cs tabT) t) : Tab w g := h.whole

end Go.Proofs.YtlenmkhmkommcaaGreat

/-
  The contracts of 'added' and 'shifted'. Conditions: blocks of 16 bytes; the tables lie where the pointer leads.
-/
namespace Go.Proofs.YtlenmkhmkommcaaGreat
open Go.RowKit
attribute [local go_sem ↓] Go.wp_at_zero Go.wp_at_succ


set_option maxHeartbeats 1000000 in
theorem oAdd (w : World) (a b : List UInt8) (ha : a.length = 16) (hb : b.length = 16) :
    Calls Tryz.prog 145 #[bv a, bv b] w fun e w' => e = .returned (bv (xorL a b)) ∧ Below w.heap.size w w' := by
  unfold bv
  have hx : (xorL a b).length = a.length := xorL_length (by omega)
  go_enter Tryz.func145, Tryz.ntmps145
  go_wp2_with fail
  go_loopw [5, 6] (fun _ i wr => ∃ k : Nat, k ≤ 16 ∧ i = .int .i64 k ∧ Blk wr w.heap.size (cs (over (xorL a b) a k)) 204 ∧ Blk wr (w.heap.size + 1) (cs b) 204 ∧ (∃ z : List UInt8, z.length = 16 ∧ Blk wr (w.heap.size + 1 + 1) (cs z) 204) ∧ Below w.heap.size w wr) (fun _ i _ => 16 - (intOf i).toNat)
  case atStart =>
    exact ⟨0, by omega, rfl, by rw [over_zero]; exact ((Blk.new w _ _).old _).old _, (Blk.newAt (w.alloc _) _ _ _ (by simp) _ rfl).old _, ⟨List.replicate 16 0, rfl, Blk.newAt ((w.alloc _).alloc _) _ _ _ (by simp) _ rfl⟩, below3 w _ _ _⟩
  case round =>
    obtain ⟨k, hk, rfl, b0, b1, ⟨z, hz, b2⟩, hbl⟩ := hrel
    by_cases hlt : k < 16
    · have c0 := b0.at8 (k := k) (by rw [over_length hx]; omega)
      rw [over_at hx (by omega) (Nat.le_refl _)] at c0
      have c1 := b1.at8 (k := k) (by omega)
      have f0 := b0.free k
      have h0 : (0 : Int) ≤ (k : Int) := by omega
      have h8 : (k : Int) < 16 := by omega
      have b3 := b0.set8 k ((xorL a b).getD k 0)
      rw [over_set hx (by omega), xorL_at (by omega) (by omega)] at b3
      generalize hp : a.getD k 0 = p at c0 b3
      generalize hq : b.getD k 0 = q at c1 b3
      have B3 : Hid (Blk (wr.setCell ⟨w.heap.size, k, none⟩ (.int .u8 ((p ^^^ q).toNat : Int))) w.heap.size (cs (over (xorL a b) a (k + 1))) 204) := b3
      have HX : Hid (bits .xor .u8 (p.toNat : Int) (q.toNat : Int) = ((p ^^^ q).toNat : Int)) := xor_u8 p q
      clear hp hq b3
      go_wp2_with fail
      go_region
      go_wp2_with fail
      go_roundw
      case rel =>
        refine ⟨k + 1, by omega, by go_num, ?_, b1.setO (by simp) _, ⟨z, hz, b2.setO (by simp; omega) _⟩, (hbl.setCell (Nat.le_refl _) _).drew⟩
        rw [HX.out]
        exact B3.out
      case measure => simp [intOf]; omega
    · obtain rfl : k = 16 := by omega
      rw [show (16 : Nat) = a.length from ha.symm, over_end hx] at b0
      have HL : Hid ((cs (xorL a b)).length = 16) := by show _ = _; rw [cs_length, hx, ha]
      go_wp2_with (first
        | (with_reducible refine at_ld 204 ?_; refine ld 204 (.tmp 2) 16 sizeK _ Tryz.underlying204 rfl w.heap.size 0 _ HL.out b0.whole rfl ?_)
        | (with_reducible refine at_st 204 ?_; refine st 204 (.tmp 4) (.tmp 18) 16 sizeK (w.heap.size + 1 + 1) 0 _ HL.out cs_one (b2.there 0 16 (by rw [cs_length, hz]; omega)) rfl rfl ?_))
      have b3 := b2.setsW (cs (xorL a b)) (by rw [HL.out, cs_length, hz])
      exact bodyPost_ret (v := .agg (cs (xorL a b)).toArray) (res_blk Tryz.results145 _ _ (w.heap.size + 1 + 1) _ _ _ rfl b3 Tryz.underlying204 16 HL.out sizeK) rfl ⟨rfl, below_sets (by omega) _ hbl 0⟩

set_option maxHeartbeats 1000000 in
theorem oShifted (w : World) (g : Nat) (hT : Tab w g) (b : List UInt8) (hb : b.length = 16) :
    Calls Tryz.prog 146 #[.pointer (some ⟨g, 0, none⟩), bv b] w fun e w' => e = .returned (bv (shf b)) ∧ Below w.heap.size w w' := by
  unfold bv
  have hgl := hT.lt
  go_enter Tryz.func146, Tryz.ntmps146
  go_wp2_with fail
  go_loopw [6, 7, 8] (fun _ _ i wr => ∃ k : Nat, k ≤ 16 ∧ i = .int .i64 k ∧ Blk wr w.heap.size (cs b) 204 ∧ (∃ z : List UInt8, z.length = 16 ∧ Blk wr (w.heap.size + 1) (cs z) 204) ∧ Blk wr (w.heap.size + 1 + 1) (cs (fill (shf b) 16 k)) 204 ∧ Below w.heap.size w wr) (fun _ _ i _ => 16 - (intOf i).toNat)
  case atStart =>
    exact ⟨0, by omega, rfl, ((Blk.new w _ _).old _).old _, ⟨List.replicate 16 0, rfl, (Blk.newAt (w.alloc _) _ _ _ (by simp) _ rfl).old _⟩, Blk.newAt ((w.alloc _).alloc _) _ _ _ (by simp) _ rfl, below3 w _ _ _⟩
  case round =>
    obtain ⟨k, hk, rfl, b0, ⟨z, hz, b1⟩, b2, hbl⟩ := hrel
    by_cases hlt : k < 16
    · have h0 : (0 : Int) ≤ (k : Int) := by omega
      have h8 : (k : Int) < 16 := by omega
      obtain ⟨j, hj⟩ : ∃ j, j = (k + k % 4 * 4) % 16 := ⟨_, rfl⟩
      have hjl : j < 16 := by omega
      obtain ⟨m, hm⟩ : ∃ m, m = k % 4 := ⟨_, rfl⟩
      have hm0 : (k : Int) % 4 = (m : Int) := by omega
      have hm1 : (k : Int).tmod 4 = (m : Int) := by rw [Int.tmod_eq_emod_of_nonneg (by omega)]; omega
      have hm2 : (m : Int) ≤ 3 := by omega
      have hj0 : ((k : Int) + (m : Int) * 4) % 16 = (j : Int) := by omega
      have hj1 : ((k : Int) + (m : Int) * 4).tmod 16 = (j : Int) := by rw [Int.tmod_eq_emod_of_nonneg (by omega)]; omega
      have hj2 : (0 : Int) ≤ (j : Int) := by omega
      have hj3 : (j : Int) < 16 := by omega
      have c0 := b0.at8 (k := j) (by omega)
      have HS := shf_at b hlt
      rw [← hj] at HS
      generalize hp : b.getD j 0 = p at c0 HS
      have hpl := b_lt p
      have hp0 : (0 : Int) ≤ (p.toNat : Int) := by omega
      have hp1 : (p.toNat : Int) < 256 := by omega
      have c1 := (hT.below hbl hgl).box p
      have c2 := b2.at8 (k := k) (by rw [fill_length (shf_length b) hk]; exact hlt)
      have f2 := b2.free k
      have b3 := b2.set8 k ((shf b).getD k 0)
      rw [fill_set (shf_length b) hlt, HS] at b3
      have B3 : Hid (Blk (wr.setCell ⟨w.heap.size + 1 + 1, k, none⟩ (.int .u8 ((box p).toNat : Int))) (w.heap.size + 1 + 1) (cs (fill (shf b) 16 (k + 1))) 204) := b3
      clear hp b3 HS hj hm
      go_wp2_with fail
      go_region
      go_wp2_with fail
      go_roundw
      case rel => exact ⟨k + 1, by omega, by go_num, b0.setO (by simp; omega) _, ⟨z, hz, b1.setO (by simp) _⟩, B3.out, (hbl.setCell (by simp; omega) _).drew⟩
      case measure => simp [intOf]; omega
    · obtain rfl : k = 16 := by omega
      rw [fill_end (shf_length b)] at b2
      have HL : Hid ((cs (shf b)).length = 16) := by show _ = _; rw [cs_length, shf_length]
      obtain ⟨X, hX⟩ : ∃ X, X = shf b := ⟨_, rfl⟩
      rw [← hX] at b2 HL
      have HX : Hid (X = shf b) := hX
      clear hX
      go_wp2_with (first
        | (with_reducible refine at_ld 204 ?_; refine ld 204 (.tmp 5) 16 sizeK _ Tryz.underlying204 rfl (w.heap.size + 1 + 1) 0 _ HL.out b2.whole rfl ?_)
        | (with_reducible refine at_st 204 ?_; refine st 204 (.tmp 4) (.tmp 28) 16 sizeK (w.heap.size + 1) 0 _ HL.out cs_one (b1.there 0 16 (by rw [cs_length, hz]; omega)) rfl rfl ?_))
      have b3 := b1.setsW (cs X) (by rw [HL.out, cs_length, hz])
      exact bodyPost_ret (v := .agg (cs X).toArray) (res_blk Tryz.results146 _ _ (w.heap.size + 1) _ _ _ rfl b3 Tryz.underlying204 16 HL.out sizeK) rfl ⟨by rw [HX.out], below_sets (by omega) _ hbl 0⟩

end Go.Proofs.YtlenmkhmkommcaaGreat

/-
  The contract of 'mixed': a block with each of its columns mixed. Conditions: a block of 16 bytes; the tables lie where the pointer leads.
-/
namespace Go.Proofs.YtlenmkhmkommcaaGreat
open Go.RowKit
attribute [local go_sem ↓] Go.wp_at_zero Go.wp_at_succ

set_option maxRecDepth 100000 in
set_option maxHeartbeats 2000000 in
theorem oMixed (w : World) (g : Nat) (hT : Tab w g) (b : List UInt8) (hb : b.length = 16) :
    Calls Tryz.prog 147 #[.pointer (some ⟨g, 0, none⟩), bv b] w fun e w' => e = .returned (bv (mixL b)) ∧ Below w.heap.size w w' := by
  unfold bv
  have hgl := hT.lt
  have hx : (mixL b).length = b.length := by rw [mixL_length, hb]
  go_enter Tryz.func147, Tryz.ntmps147
  go_wp2_with fail
  go_loopw [5, 6, 7, 8, 9] (fun i _ _ _ _ wr => ∃ c : Nat, c ≤ 4 ∧ i = .int .i64 ((4 * c : Nat) : Int) ∧ Blk wr w.heap.size (cs (over (mixL b) b (4 * c))) 204 ∧ (∃ z : List UInt8, z.length = 16 ∧ Blk wr (w.heap.size + 1) (cs z) 204) ∧ Below w.heap.size w wr) (fun i _ _ _ _ _ => 16 - (intOf i).toNat)
  case atStart =>
    exact ⟨0, by omega, rfl, by rw [over_zero]; exact (Blk.new w _ _).old _, ⟨List.replicate 16 0, rfl, Blk.newAt (w.alloc _) _ _ _ (by simp) _ rfl⟩, below2 w _ _⟩
  case round =>
    obtain ⟨c, hc, rfl, b0, ⟨z, hz, b1⟩, hbl⟩ := hrel
    by_cases hlt : c < 4
    · obtain ⟨k, hk⟩ : ∃ k, k = 4 * c := ⟨_, rfl⟩
      have M0 := mixL_at b (k := 4 * c) (by omega)
      have M1 := mixL_at b (k := 4 * c + 1) (by omega)
      have M2 := mixL_at b (k := 4 * c + 2) (by omega)
      have M3 := mixL_at b (k := 4 * c + 3) (by omega)
      rw [mix0] at M0
      rw [mix1] at M1
      rw [mix2] at M2
      rw [mix3] at M3
      rw [← hk] at M0 M1 M2 M3 b0 ⊢
      have h0 : (0 : Int) ≤ (k : Int) := by omega
      have h8 : (k : Int) ≤ 12 := by omega
      have e0 := b0.at8 (k := k) (by rw [over_length hx]; omega)
      have e1 := b0.at8 (k := k + 1) (by rw [over_length hx]; omega)
      have e2 := b0.at8 (k := k + 2) (by rw [over_length hx]; omega)
      have e3 := b0.at8 (k := k + 3) (by rw [over_length hx]; omega)
      rw [over_at hx (by omega) (by omega)] at e0 e1 e2 e3
      have HM : Hid (∀ w1 : World, Blk w1 w.heap.size (cs (over (mixL b) b k)) 204 → Blk ((((w1.setCell ⟨w.heap.size, k, none⟩ (.int .u8 ((mixL b).getD k 0).toNat)).setCell ⟨w.heap.size, k + 1, none⟩ (.int .u8 ((mixL b).getD (k + 1) 0).toNat)).setCell ⟨w.heap.size, k + 2, none⟩ (.int .u8 ((mixL b).getD (k + 2) 0).toNat)).setCell ⟨w.heap.size, k + 3, none⟩ (.int .u8 ((mixL b).getD (k + 3) 0).toNat)) w.heap.size (cs (over (mixL b) b (4 * (c + 1)))) 204) := fun w1 b0 => by
        have d0 := b0.set8 k ((mixL b).getD k 0)
        rw [over_set hx (by omega)] at d0
        have d1 := d0.set8 (k + 1) ((mixL b).getD (k + 1) 0)
        rw [over_set hx (by omega)] at d1
        have d2 := d1.set8 (k + 1 + 1) ((mixL b).getD (k + 2) 0)
        rw [over_set hx (by omega)] at d2
        have d3 := d2.set8 (k + 1 + 1 + 1) ((mixL b).getD (k + 3) 0)
        rw [over_set hx (by omega), show k + 1 + 1 + 1 + 1 = 4 * (c + 1) from by omega] at d3
        exact d3
      rw [M0, M1, M2, M3] at HM
      clear M0 M1 M2 M3
      generalize hp : b.getD k 0 = p at *
      generalize hq : b.getD (k + 1) 0 = q at *
      generalize hr : b.getD (k + 2) 0 = r at *
      generalize hs : b.getD (k + 3) 0 = s at *
      clear hp hq hr hs
      simp only [← xor_u8] at HM
      have hTr := hT.below hbl hgl
      have HK : Hid (k = 4 * c) := hk
      clear hk
      go_wp2_with fail
      go_quiet (fail)
      generalize hw1 : wr.drewN _ = w1
      have b0' : Blk w1 w.heap.size (cs (over (mixL b) b k)) 204 := by rw [← hw1]; exact b0
      have b1' : Blk w1 (w.heap.size + 1) (cs z) 204 := by rw [← hw1]; exact b1
      have hTw : Tab w1 g := by rw [← hw1]; exact hTr
      have hbw : Below w.heap.size w w1 := by rw [← hw1]; exact below_drN hbl _
      have r0 : w1.cell? ⟨w.heap.size, k, none⟩ = some (.int .u8 p.toNat) := by rw [← hw1]; exact e0
      have r1 : w1.cell? ⟨w.heap.size, k + 1, none⟩ = some (.int .u8 q.toNat) := by rw [← hw1]; exact e1
      have r2 : w1.cell? ⟨w.heap.size, k + 2, none⟩ = some (.int .u8 r.toNat) := by rw [← hw1]; exact e2
      have r3 : w1.cell? ⟨w.heap.size, k + 3, none⟩ = some (.int .u8 s.toNat) := by rw [← hw1]; exact e3
      clear hw1 e0 e1 e2 e3 b0 b1 hTr
      have f0 := b0'.free k
      have f1 := b0'.free (k + 1)
      have f2 := b0'.free (k + 2)
      have f3 := b0'.free (k + 3)
      have t0 := hTw.tw (p ^^^ q)
      have t1 := hTw.tw (q ^^^ r)
      have t2 := hTw.tw (r ^^^ s)
      have t3 := hTw.tw (s ^^^ p)
      have x0 := xor_u8 p q
      have x1 := xor_u8 q r
      have x2 := xor_u8 r s
      have x3 := xor_u8 s p
      generalize p ^^^ q = pq at *
      generalize q ^^^ r = qr at *
      generalize r ^^^ s = rs at *
      generalize s ^^^ p = sp at *
      have l0 := b_lt pq
      have l1 := b_lt qr
      have l2 := b_lt rs
      have l3 := b_lt sp
      have u0 : (pq.toNat : Int) < 256 := by omega
      have u1 : (qr.toNat : Int) < 256 := by omega
      have u2 : (rs.toNat : Int) < 256 := by omega
      have u3 : (sp.toNat : Int) < 256 := by omega
      have hn : ¬ g = w.heap.size := by omega
      have hn' : ¬ w.heap.size = g := by omega
      go_wp2_with fail
      go_roundw
      case rel =>
        refine ⟨c + 1, by omega, by rw [HK.out]; go_num, HM.out _ b0', ⟨z, hz, (((b1'.setO (by simp) _).setO (by simp) _).setO (by simp) _).setO (by simp) _⟩, (((hbw.setCell (Nat.le_refl _) _).setCell (Nat.le_refl _) _).setCell (Nat.le_refl _) _).setCell (Nat.le_refl _) _⟩
      case measure => have := HK.out; simp [intOf]; omega
    · obtain rfl : c = 4 := by omega
      rw [show 4 * 4 = b.length from hb.symm, over_end hx] at b0
      have HL : Hid ((cs (mixL b)).length = 16) := by show _ = _; rw [cs_length, mixL_length]
      obtain ⟨X, hX⟩ : ∃ X, X = mixL b := ⟨_, rfl⟩
      rw [← hX] at b0 HL
      have HX : Hid (X = mixL b) := hX
      clear hX
      go_wp2_with (first
        | (with_reducible refine at_ld 204 ?_; refine ld 204 (.tmp 3) 16 sizeK _ Tryz.underlying204 rfl w.heap.size 0 _ HL.out b0.whole rfl ?_)
        | (with_reducible refine at_st 204 ?_; refine st 204 (.tmp 4) (.tmp 96) 16 sizeK (w.heap.size + 1) 0 _ HL.out cs_one (b1.there 0 16 (by rw [cs_length, hz]; omega)) rfl rfl ?_))
      have b3 := b1.setsW (cs X) (by rw [HL.out, cs_length, hz])
      exact bodyPost_ret (v := .agg (cs X).toArray) (res_blk Tryz.results147 _ _ (w.heap.size + 1) _ _ _ rfl b3 Tryz.underlying204 16 HL.out sizeK) rfl ⟨by rw [HX.out], below_sets (by omega) _ hbl 0⟩

end Go.Proofs.YtlenmkhmkommcaaGreat

/-
  Arrays of 16 bytes, loaded and stored whole inside regions that draw their order. No condition; no statement of the seat is proved here.
-/
namespace Go.Proofs.YtlenmkhmkommcaaGreat
open Go.RowKit

/-- The 16 cells from a place on, where they are all there. -/
def row16 (w : World) (b o : Nat) : Option (Array Value) :=
  if ∀ j, j < 16 → (w.cell? ⟨b, o + j, none⟩).isSome = true then some ((List.range 16).map fun j => (w.cell? ⟨b, o + j, none⟩).getD undef).toArray else none
def farLd16 (P : Program) (w : World) (b o : Nat) : Result Value := Sem.run P (Instr.loadAt 204 (.pointer (some ⟨b, o, none⟩))) w
theorem ld16_rule (w : World) (b o : Nat) : Sem.run Tryz.prog (Instr.loadAt 204 (.pointer (some ⟨b, o, none⟩))) w = match row16 w b o with | some c => .ok (.agg c) w | none => farLd16 Tryz.prog w b o := by
  unfold row16
  split
  · rename_i c hc
    split at hc
    · rename_i h
      simp only [Option.some.injEq] at hc
      subst hc
      refine run_loadAt_mid w b o 204 _ _ (fun j v hv => ?_) Tryz.underlying204 rfl (by rw [sizeK]; simp)
      have hj : j < 16 := by
        have := (List.getElem?_eq_some_iff.1 hv).1
        simpa using this
      have e := h j hj
      obtain ⟨u, hu⟩ := Option.isSome_iff_exists.1 e
      simp [hj, hu] at hv
      rw [hu, hv]
    · simp at hc
  · rfl
def ld16 (x : Value) : Sem Value := Instr.loadAt 204 x
theorem ld16_in (x : Value) : Instr.loadAt 204 x = ld16 x := rfl
theorem ld16_run (w : World) (b o : Nat) : Sem.run Tryz.prog (ld16 (.pointer (some ⟨b, o, none⟩))) w = match row16 w b o with | some c => .ok (.agg c) w | none => farLd16 Tryz.prog w b o := ld16_rule w b o
theorem row16_drew (w : World) (b o : Nat) : row16 w.drew b o = row16 w b o := rfl
theorem row16_of {w : World} {b o : Nat} {c : List Value} (h : w.rangeAt b o c) (hc : c.length = 16) : row16 w b o = some c.toArray := by
  have hs : ∀ j, j < 16 → w.cell? ⟨b, o + j, none⟩ = c[j]? := fun j hj => by
    rw [h j c[j] (List.getElem?_eq_getElem (by omega)), List.getElem?_eq_getElem]
  unfold row16
  rw [if_pos (fun j hj => by rw [hs j hj, List.getElem?_eq_getElem (by omega)]; rfl)]
  congr 2
  apply List.ext_getElem
  · simp [hc]
  · intro j h1 h2
    simp only [List.getElem_map, List.getElem_range]
    rw [hs j (by omega), List.getElem?_eq_getElem h2]
    rfl

/-- What a store of a whole array leaves. -/
def sto (w : World) (b o : Nat) (c : Array Value) : World := w.setCells b o c.toList
def okS (w : World) (b o : Nat) (c : Array Value) : Bool := decide ((∀ j : Fin 16, (w.cell? ⟨b, o + j.val, none⟩).isSome = true ∧ w.frozen? ⟨b, o + j.val, none⟩ = false) ∧ c.size = 16 ∧ c.all (·.oneCell') = true)
def farSt16 (P : Program) (w : World) (b o : Nat) (c : Array Value) : Result Unit := Sem.run P (Instr.storeAt 204 (.pointer (some ⟨b, o, none⟩)) (.agg c)) w
def st16 (x y : Value) : Sem Unit := Instr.storeAt 204 x y
theorem st16_in (x y : Value) : Instr.storeAt 204 x y = st16 x y := rfl
theorem st16_run (w : World) (b o : Nat) (c : Array Value) : Sem.run Tryz.prog (st16 (.pointer (some ⟨b, o, none⟩)) (.agg c)) w = match okS w b o c with | true => .ok () (sto w b o c) | false => farSt16 Tryz.prog w b o c := by
  split
  · rename_i h
    unfold okS at h
    obtain ⟨h1, h2, h3⟩ := of_decide_eq_true h
    exact run_storeAt_mid w b o 204 c (by rw [h2]; exact fun j hj => h1 ⟨j, hj⟩) (by rw [h2]; exact sizeK) h3
  · rfl
theorem okS_drew (w : World) (b o : Nat) (c : Array Value) : okS w.drew b o c = okS w b o c := rfl
theorem okS_of {w : World} {g : Nat} {l x : List UInt8} {t : TypeId} (b : Blk w g (cs l) t) (hl : l.length = 16) (hx : x.length = 16) : okS w g 0 (cs x).toArray = true := by
  unfold okS
  exact decide_eq_true ⟨fun j => b.there 0 16 (by rw [cs_length, hl]; omega) j.val j.isLt, by simp [cs_length, hx], all_oneCell_toArray cs_one⟩
theorem sto_blk {w : World} {g : Nat} {l x : List UInt8} {t : TypeId} (b : Blk w g (cs l) t) (hl : l.length = 16) (hx : x.length = 16) : Blk (sto w g 0 (cs x).toArray) g (cs x) t := by
  unfold sto
  exact b.setsW (cs x) (by rw [cs_length, cs_length, hl, hx])
theorem sto_other {w : World} {g k : Nat} {us : List Value} {t : TypeId} (b : Blk w k us t) (hk : k ≠ g) (c : Array Value) : Blk (sto w g 0 c) k us t := by
  unfold sto
  exact Blk.setsO hk _ b 0
theorem sto_below {B g : Nat} {a w : World} (hg : B ≤ g) (h : Below B a w) (c : Array Value) : Below B a (sto w g 0 c) := by
  unfold sto
  exact below_sets hg _ h 0

end Go.Proofs.YtlenmkhmkommcaaGreat

/-
  The contract of the cipher's Block. Conditions: the tables and the keys of all rounds lie where the pointer leads; a block of 16 bytes.
-/
namespace Go.Proofs.YtlenmkhmkommcaaGreat
open Go.RowKit

/-- The key of a round, out of all rounds' keys. -/
def rk (K : List UInt8) (r : Nat) : List UInt8 := (K.drop (16 * r)).take 16
theorem rk_length {K : List UInt8} (hK : K.length = 240) {r : Nat} (hr : r ≤ 14) : (rk K r).length = 16 := by simp [rk, hK]; omega
/-- A block, behind so many rounds. -/
def blkS (K b : List UInt8) : Nat → List UInt8
  | 0 => xorL b (rk K 0)
  | r + 1 => xorL (if r + 1 < 14 then mixL (shf (blkS K b r)) else shf (blkS K b r)) (rk K (r + 1))
def aesL (K b : List UInt8) : List UInt8 := blkS K b 14
theorem blkS_length {K b : List UInt8} (hK : K.length = 240) (hb : b.length = 16) : ∀ {r : Nat}, r ≤ 14 → (blkS K b r).length = 16
  | 0, hr => by rw [blkS, xorL_length (by rw [hb, rk_length hK hr]), hb]
  | r + 1, hr => by
    rw [blkS]
    split
    · rw [xorL_length (by rw [mixL_length, rk_length hK hr]), mixL_length]
    · rw [xorL_length (by rw [shf_length, rk_length hK hr]), shf_length]

/-- A cipher: the tables, and all rounds' keys behind them. -/
def Cip (w : World) (g : Nat) (K : List UInt8) : Prop := w.rangeAt g 0 (cs (tabT ++ K))
theorem Cip.tab {w : World} {g : Nat} {K : List UInt8} (h : Cip w g K) : Tab w g := fun j v hv => by
  refine h j v ?_
  rw [cs_append, List.getElem?_append_left (List.getElem?_eq_some_iff.1 hv).1]
  exact hv
theorem Cip.key {w : World} {g : Nat} {K : List UInt8} (h : Cip w g K) (r : Nat) : w.rangeAt g (512 + 16 * r) (cs (rk K r)) := fun j v hv => by
  have := h (512 + 16 * r + j) v (by
    rw [cs_append, List.getElem?_append_right (by rw [cs_length, tabT_length]; omega), cs_length, tabT_length, show 512 + 16 * r + j - 512 = 16 * r + j from by omega]
    exact cs_sub hv)
  rw [Nat.zero_add] at this
  exact this
theorem Cip.below {w w' : World} {g : Nat} {K : List UInt8} (h : Cip w g K) {B : Nat} (hb : Below B w w') (hB : g < B) : Cip w' g K := fun j v hv => by
  rw [hb.cell (p := ⟨g, 0 + j, none⟩) hB]
  exact h j v hv
theorem Cip.dr {w : World} {g : Nat} {K : List UInt8} (h : Cip w g K) : Cip w.drew g K := h


attribute [local go_sem ↓] ld16_in st16_in
attribute [local go_sem] ld16_run row16_drew st16_run okS_drew
set_option maxRecDepth 100000 in
set_option maxHeartbeats 2000000 in
theorem oBlock (w : World) (g : Nat) (K : List UInt8) (hC : Cip w g K) (hK : K.length = 240) (b : List UInt8) (hb : b.length = 16) :
    Calls Tryz.prog 132 #[.pointer (some ⟨g, 0, none⟩), bv b] w fun e w' => e = .returned (bv (aesL K b)) ∧ Below w.heap.size w w' := by
  have hgl := hC.tab.lt
  unfold bv
  have HBL : Hid (b.length = 16) := hb
  go_enter Tryz.func132, Tryz.ntmps132
  go_wp2_with fail
  obtain ⟨W2, hW2⟩ : ∃ W2, W2 = (w.alloc (.cells (cs b).toArray 204)).alloc (.cells z16 204) := ⟨_, rfl⟩
  rw [← hW2]
  have d0 : Blk W2 w.heap.size (cs b) 204 := by rw [hW2]; exact (Blk.new w _ _).old _
  have d1 : Blk W2 (w.heap.size + 1) (cs (List.replicate 16 0)) 204 := by rw [hW2]; exact Blk.newAt (w.alloc _) z16 _ _ (by simp) _ rfl
  have hd : Below w.heap.size w W2 := by rw [hW2]; exact below2 w _ _
  clear hW2
  have hCd := hC.below hd hgl
  have k0 := hCd.key 0
  have q0 := row16_of d0.whole (by rw [cs_length, hb])
  have q1 := row16_of k0 (by rw [cs_length, rk_length hK (by omega)])
  rw [Nat.mul_zero, Nat.add_zero] at q1
  have HR : Hid (∀ r, r ≤ 14 → (rk K r).length = 16) := fun r hr => rk_length hK hr
  have HS : Hid (∀ r, r ≤ 14 → (blkS K b r).length = 16) := fun r hr => blkS_length hK hb hr
  have CA : Hid (∀ (w : World) (a c : List UInt8), a.length = 16 → c.length = 16 → Calls Tryz.prog 145 #[.agg (cs a).toArray, .agg (cs c).toArray] w fun e w' => e = .returned (.agg (cs (xorL a c)).toArray) ∧ Below w.heap.size w w') := fun w a c ha hc => oAdd w a c ha hc
  clear k0
  go_cut [] (fun wx => Blk wx w.heap.size (cs (blkS K b 0)) 204 ∧ Blk wx (w.heap.size + 1) (cs (List.replicate 16 0)) 204 ∧ Below w.heap.size w wx)
  case first =>
    go_region_with (go_at_call 145; refine (CA.out W2.drew b (rk K 0) HBL.out (HR.out 0 (by omega))).mono ?_; rintro e w3 ⟨rfl, hb3⟩; have e0 := d0.dr.below hb3 d0.lt; have ok3 := okS_of (x := xorL b (rk K 0)) e0 HBL.out (HS.out 0 (by omega)))
    all_goals
      go_wp2_with fail
      go_meet
      case rel =>
        exact ⟨sto_blk e0 HBL.out (HS.out 0 (by omega)), sto_other (d1.dr.below hb3 d1.lt) (by omega) _, sto_below (Nat.le_refl _) (hd.drew.trans (hb3.mono hd.size)) _⟩
  case rest =>
    clear q0 q1 d0 d1 hCd hd
    obtain ⟨d0, d1, hd⟩ := hcut
    have CS : Hid (∀ (w : World) (c : List UInt8), Tab w g → c.length = 16 → Calls Tryz.prog 146 #[.pointer (some ⟨g, 0, none⟩), .agg (cs c).toArray] w fun e w' => e = .returned (.agg (cs (shf c)).toArray) ∧ Below w.heap.size w w') := fun w c hT hc => oShifted w g hT c hc
    have CM : Hid (∀ (w : World) (c : List UInt8), Tab w g → c.length = 16 → Calls Tryz.prog 147 #[.pointer (some ⟨g, 0, none⟩), .agg (cs c).toArray] w fun e w' => e = .returned (.agg (cs (mixL c)).toArray) ∧ Below w.heap.size w w') := fun w c hT hc => oMixed w g hT c hc
    clear hK hb
    go_wp2_with fail
    go_loopw [5] (fun i wr => ∃ r : Nat, r ≤ 14 ∧ i = .int .i64 ((r : Int) + 1) ∧ Blk wr w.heap.size (cs (blkS K b r)) 204 ∧ Blk wr (w.heap.size + 1) (cs (List.replicate 16 0)) 204 ∧ Below w.heap.size w wr) (fun i _ => 15 - (intOf i).toNat)
    case atStart => exact ⟨0, by omega, rfl, d0, d1, hd⟩
    case round =>
      clear d0 d1 hd
      obtain ⟨r, hr, rfl, d0, d1, hd⟩ := hrel
      by_cases hlt : r < 14
      · have hSl := HS.out r hr
        have HN : Hid (blkS K b (r + 1) = xorL (if r + 1 < 14 then mixL (shf (blkS K b r)) else shf (blkS K b r)) (rk K (r + 1))) := rfl
        have HNL : Hid ((blkS K b (r + 1)).length = 16) := HS.out (r + 1) (by omega)
        generalize hS : blkS K b r = S at *
        clear hS
        have HSl : Hid (S.length = 16) := hSl
        obtain ⟨i, hi⟩ : ∃ i, i = r + 1 := ⟨_, rfl⟩
        rw [show (r : Int) + 1 = (i : Int) from by omega]
        have HI : Hid (i = r + 1) := hi
        have hr0 : (0 : Int) ≤ (i : Int) := by omega
        have hr1 : (i : Int) ≤ 14 := by omega
        have hr3 : (i : Int) < 15 := by omega
        rw [← hi] at HN HNL
        have HRI : Hid ((rk K i).length = 16) := HR.out i (by omega)
        have h14 : i ≤ 14 := by omega
        have hri : r < i := by omega
        clear hi
        have hCd := hC.below hd hgl
        have HT : Hid (Tab wr g) := hCd.tab
        have q0 := row16_of d0.whole (by rw [cs_length, hSl])
        clear hSl hCd
        go_wp2_with fail
        go_cut [] (fun wx => Blk wx w.heap.size (cs (shf S)) 204 ∧ Blk wx (w.heap.size + 1) (cs (List.replicate 16 0)) 204 ∧ Below w.heap.size w wx)
        case first =>
          go_region_with (go_at_call 146; refine (CS.out wr.drew S HT.out HSl.out).mono ?_; rintro e w3 ⟨rfl, hb3⟩; have e0 := d0.dr.below hb3 d0.lt; have ok3 := okS_of (x := shf S) e0 HSl.out (shf_length S))
          all_goals
            go_wp2_with fail
            go_meet
            case rel =>
              exact ⟨sto_blk e0 HSl.out (shf_length S), sto_other (d1.dr.below hb3 d1.lt) (by omega) _, sto_below (Nat.le_refl _) (hd.drew.trans (hb3.mono hd.size)) _⟩
        case rest =>
          clear q0 d0 d1 hd HT
          obtain ⟨d0, d1, hd⟩ := hcut
          have HSF : Hid ((shf S).length = 16) := shf_length S
          by_cases h13 : i < 14
          · have hr2 : (i : Int) < 14 := by omega
            have HT : Hid (Tab wc g) := (hC.below hd hgl).tab
            have q0 := row16_of d0.whole (by rw [cs_length, shf_length])
            have HNN : Hid (blkS K b i = xorL (mixL (shf S)) (rk K i)) := by show _ = _; rw [HN.out, if_pos h13]
            clear HN
            go_wp2_with fail
            go_cut [] (fun wx => Blk wx w.heap.size (cs (mixL (shf S))) 204 ∧ Blk wx (w.heap.size + 1) (cs (List.replicate 16 0)) 204 ∧ Below w.heap.size w wx)
            case first =>
              go_region_with (go_at_call 147; refine (CM.out wc.drew (shf S) HT.out HSF.out).mono ?_; rintro e w3 ⟨rfl, hb3⟩; have e0 := d0.dr.below hb3 d0.lt; have ok3 := okS_of (x := mixL (shf S)) e0 HSF.out (mixL_length (shf S)))
              all_goals
                go_wp2_with fail
                go_meet
                case rel =>
                  exact ⟨sto_blk e0 HSF.out (mixL_length _), sto_other (d1.dr.below hb3 d1.lt) (by omega) _, sto_below (Nat.le_refl _) (hd.drew.trans (hb3.mono hd.size)) _⟩
            case rest =>
              clear q0 d0 d1 hd HT
              obtain ⟨d0, d1, hd⟩ := hcut
              have q0 := row16_of d0.whole (by rw [cs_length, mixL_length])
              have q1 := row16_of ((hC.below hd hgl).key i) (by rw [cs_length, HRI.out])
              rw [Nat.mul_comm] at q1
              have HML : Hid ((mixL (shf S)).length = 16) := mixL_length _
              have HXL : Hid ((xorL (mixL (shf S)) (rk K i)).length = 16) := by show _ = _; rw [← HNN.out]; exact HNL.out
              go_wp2_with fail
              go_region_with (go_at_call 145; refine (CA.out wc.drew (mixL (shf S)) (rk K i) HML.out HRI.out).mono ?_; rintro e w3 ⟨rfl, hb3⟩; have e0 := d0.dr.below hb3 d0.lt; have ok3 := okS_of (x := xorL (mixL (shf S)) (rk K i)) e0 HML.out HXL.out)
              all_goals
                go_wp2_with fail
                go_roundw
                case rel => exact ⟨i, h14, by go_num, by rw [HNN.out]; exact sto_blk e0 HML.out HXL.out, sto_other (d1.dr.below hb3 d1.lt) (by omega) _, sto_below (Nat.le_refl _) (hd.drew.trans (hb3.mono hd.size)) _⟩
                case measure => simp [intOf]; omega
          · have hr2 : ¬ (i : Int) < 14 := by omega
            have HNN : Hid (blkS K b i = xorL (shf S) (rk K i)) := by show _ = _; rw [HN.out, if_neg h13]
            clear HN
            have q0 := row16_of d0.whole (by rw [cs_length, shf_length])
            have q1 := row16_of ((hC.below hd hgl).key i) (by rw [cs_length, HRI.out])
            rw [Nat.mul_comm] at q1
            have HXL : Hid ((xorL (shf S) (rk K i)).length = 16) := by show _ = _; rw [← HNN.out]; exact HNL.out
            go_wp2_with fail
            go_region_with (go_at_call 145; refine (CA.out wc.drew (shf S) (rk K i) HSF.out HRI.out).mono ?_; rintro e w3 ⟨rfl, hb3⟩; have e0 := d0.dr.below hb3 d0.lt; have ok3 := okS_of (x := xorL (shf S) (rk K i)) e0 HSF.out HXL.out)
            all_goals
              go_wp2_with fail
              go_roundw
              case rel => exact ⟨i, h14, by go_num, by rw [HNN.out]; exact sto_blk e0 HSF.out HXL.out, sto_other (d1.dr.below hb3 d1.lt) (by omega) _, sto_below (Nat.le_refl _) (hd.drew.trans (hb3.mono hd.size)) _⟩
              case measure => simp [intOf]; omega
      · obtain rfl : r = 14 := by omega
        have HL : Hid ((cs (blkS K b 14)).length = 16) := by show _ = _; rw [cs_length, HS.out 14 (by omega)]
        go_wp2_with (first
          | (with_reducible refine at_ld 204 ?_; refine ld 204 (.tmp 3) 16 sizeK _ Tryz.underlying204 rfl w.heap.size 0 _ HL.out d0.whole rfl ?_)
          | (with_reducible refine at_st 204 ?_; refine st 204 (.tmp 4) (.tmp 37) 16 sizeK (w.heap.size + 1) 0 _ HL.out cs_one (d1.there 0 16 (by rw [cs_length]; simp)) rfl rfl ?_))
        have b3 := d1.setsW (cs (blkS K b 14)) (by rw [HL.out]; rfl)
        exact bodyPost_ret (v := .agg (cs (blkS K b 14)).toArray) (res_blk Tryz.results132 _ _ (w.heap.size + 1) _ _ _ rfl b3 Tryz.underlying204 16 HL.out sizeK) rfl ⟨rfl, below_sets (by omega) _ hd 0⟩

end Go.Proofs.YtlenmkhmkommcaaGreat

/-
  Plain mathematics of the keys of all rounds: words of four bytes, one behind the other. No condition; nothing of the program.
-/
namespace Go.Proofs.YtlenmkhmkommcaaGreat
open Go.RowKit

/-- Two to the power of n. -/
def dpow : Nat → UInt8
  | 0 => 1
  | n + 1 => dbl (dpow n)
/-- A word of four bytes. -/
def wd (F : List UInt8) (j : Nat) : List UInt8 := (F.drop (4 * j)).take 4
/-- What a word becomes ahead of the i-th one. -/
def tmpW (x : List UInt8) (i : Nat) : List UInt8 :=
  if i % 8 = 0 then [box (x.getD 1 0) ^^^ dpow ((i - 1) / 8), box (x.getD 2 0), box (x.getD 3 0), box (x.getD 0 0)]
  else if i % 8 = 4 then x.map box else x
/-- So many words, one behind the other. -/
def fl (key : List UInt8) : Nat → List UInt8
  | 0 => []
  | i + 1 => fl key i ++ (if i < 8 then wd key i else xorL (wd (fl key i) (i - 8)) (tmpW (wd (fl key i) (i - 1)) i))

theorem wd_length {F : List UInt8} {j : Nat} (h : 4 * j + 4 ≤ F.length) : (wd F j).length = 4 := by simp [wd]; omega
theorem tmpW_length {x : List UInt8} (h : x.length = 4) (i : Nat) : (tmpW x i).length = 4 := by
  unfold tmpW
  split
  · rfl
  · split
    · rw [List.length_map, h]
    · exact h
theorem fl_length {key : List UInt8} (hk : key.length = 32) (i : Nat) : (fl key i).length = 4 * i := by
  induction i with
  | zero => rfl
  | succ i ih =>
    rw [fl, List.length_append, ih]
    split
    · rw [wd_length (by omega)]; omega
    · have h1 : (wd (fl key i) (i - 8)).length = 4 := wd_length (by omega)
      have h2 : (tmpW (wd (fl key i) (i - 1)) i).length = 4 := tmpW_length (wd_length (by omega)) i
      rw [xorL_length (by omega), h1]
      omega
theorem fl_take {key : List UInt8} (hk : key.length = 32) (i n : Nat) : (fl key (i + n)).take (4 * i) = fl key i := by
  induction n with
  | zero => rw [Nat.add_zero, List.take_of_length_le (by rw [fl_length hk]; omega)]
  | succ n ih =>
    rw [← Nat.add_assoc, fl, List.take_append_of_le_length (by rw [fl_length hk]; omega), ih]
theorem wd_take (F : List UInt8) {j i : Nat} (h : j < i) : wd (F.take (4 * i)) j = wd F j := by
  unfold wd
  rw [List.drop_take, List.take_take]
  congr 1
  omega
theorem wd_fl {key : List UInt8} (hk : key.length = 32) {j i n : Nat} (h : j < i) : wd (fl key (i + n)) j = wd (fl key i) j := by
  rw [← wd_take (fl key (i + n)) h, fl_take hk]

/-- All rounds' keys. -/
def keyF (key : List UInt8) : List UInt8 := fl key 60
theorem keyF_length {key : List UInt8} (hk : key.length = 32) : (keyF key).length = 240 := fl_length hk 60
theorem wd_last {key : List UInt8} (hk : key.length = 32) {i : Nat} (hi : i < 60) : wd (keyF key) i = (if i < 8 then wd key i else xorL (wd (fl key i) (i - 8)) (tmpW (wd (fl key i) (i - 1)) i)) := by
  obtain ⟨n, hn⟩ : ∃ n, 60 = (i + 1) + n := ⟨59 - i, by omega⟩
  have h1 : wd (keyF key) i = wd (fl key (i + 1)) i := by
    unfold keyF
    rw [hn, wd_fl hk (Nat.lt_succ_self i)]
  have h2 := fl_length hk i
  have h3 := fl_length hk (i + 1)
  rw [fl, List.length_append, h2] at h3
  rw [h1]
  conv => lhs; rw [fl]
  unfold wd at *
  rw [List.drop_append, List.drop_eq_nil_of_le (by omega), h2, Nat.sub_self, List.drop_zero, List.nil_append, List.take_of_length_le (by omega)]
theorem wd_low {key : List UInt8} (hk : key.length = 32) {i : Nat} (hi : i < 8) : wd (keyF key) i = wd key i := by
  rw [wd_last hk (by omega), if_pos hi]
theorem wd_high {key : List UInt8} (hk : key.length = 32) {i : Nat} (hi : i < 60) (h8 : 8 ≤ i) : wd (keyF key) i = xorL (wd (keyF key) (i - 8)) (tmpW (wd (keyF key) (i - 1)) i) := by
  obtain ⟨n, hn⟩ : ∃ n, 60 = i + n := ⟨60 - i, by omega⟩
  have e : ∀ j, j < i → wd (keyF key) j = wd (fl key i) j := fun j hj => by
    unfold keyF
    rw [hn, wd_fl hk hj]
  rw [wd_last hk hi, if_neg (by omega), e (i - 8) (by omega), e (i - 1) (by omega)]

/-- One more word. -/
theorem fill_word {F : List UInt8} (hF : F.length = 240) {i : Nat} (hi : i < 60) : (fill F 240 (4 * i)).take (4 * i) ++ wd F i ++ (fill F 240 (4 * i)).drop (4 * i + 4) = fill F 240 (4 * (i + 1)) := by
  have hl : (F.take (4 * i)).length = 4 * i := by simp; omega
  have e : (F.take (4 * i)).drop (4 * i + 4) = [] := List.drop_eq_nil_of_le (by omega)
  unfold fill wd
  rw [List.take_append_of_le_length (by omega), List.take_of_length_le (by omega), List.drop_append, e, List.nil_append, hl, List.drop_replicate, ← List.take_add]
  congr 2
  omega
theorem fill_wd {F : List UInt8} (hF : F.length = 240) {i j : Nat} (hi : i ≤ 60) (hj : j < i) : wd (fill F 240 (4 * i)) j = wd F j := by
  rw [← wd_take F hj]
  unfold fill wd
  rw [List.drop_append_of_le_length (by simp; omega), List.take_append_of_le_length (by simp; omega)]

end Go.Proofs.YtlenmkhmkommcaaGreat
