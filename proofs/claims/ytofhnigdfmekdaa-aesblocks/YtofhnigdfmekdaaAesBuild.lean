/-
  The contracts of 'Build' and 'Box'. No condition but that the tables lie where the pointer leads.
-/
import Derived.Test.YtofhnigdfmekdaaAesPow
import Derived.Test.YtofhnigdfmekdaaAesT
import Derived.Deep.RegionWith
namespace Go.Proofs.Ytofhnigdfmekdaa
open Go.RowKit

theorem builtT : Try.prog.built 45 [] = some (zarr 512) := by kernel_rfl

/-- The tables, behind so many bytes. -/
def tabs (i j : Nat) : List UInt8 := fill boxT 256 i ++ fill twT 256 j
theorem tabs_length {i j : Nat} (hi : i ≤ 256) (hj : j ≤ 256) : (tabs i j).length = 512 := by
  rw [tabs, List.length_append, fill_length boxT_length hi, fill_length twT_length hj]
theorem tabs_box {k : Nat} (hk : k < 256) : (tabs k k).set k (boxT.getD k 0) = tabs (k + 1) k := by
  rw [tabs, List.set_append_left _ _ (by rw [fill_length boxT_length (by omega)]; exact hk), fill_set boxT_length hk, tabs]
theorem tabs_tw {k : Nat} (hk : k < 256) : (tabs (k + 1) k).set (256 + k) (twT.getD k 0) = tabs (k + 1) (k + 1) := by
  rw [tabs, List.set_append_right _ _ (by rw [fill_length boxT_length (by omega)]; omega), fill_length boxT_length (by omega), Nat.add_sub_cancel_left, fill_set twT_length hk, tabs]
theorem tabs_zero : tabs 0 0 = List.replicate 512 0 := by
  rw [tabs, fill_zero, fill_zero, List.replicate_append_replicate]
theorem tabs_end : tabs 256 256 = tabT := by
  rw [tabs, fill_end boxT_length, fill_end twT_length, tabT]
theorem boxT_at {k : Nat} (hk : k < 256) : bent ((invS 255).getD k 0) = boxT.getD k 0 := by
  rw [← box_tab, List.getD_eq_getElem?_getD, List.getD_eq_getElem?_getD, List.getElem?_map, List.getElem?_eq_getElem (by rw [invS_length]; exact hk)]
  rfl
theorem wrap_byte (k : Nat) (hk : k < 256) : IntKind.u8.wrap (k : Int) = (k : Int) := by
  rw [IntKind.wrap_u8]
  omega
theorem twT_at {k : Nat} (hk : k < 256) : dbl (UInt8.ofNat k) = twT.getD k 0 := by
  simp [twT, List.getD_eq_getElem?_getD, hk]

set_option maxRecDepth 100000 in
set_option maxHeartbeats 1000000 in
theorem oBuild (w : World) :
    Calls Try.prog 7 #[] w fun e w' => ∃ r, e = .returned (.pointer (some ⟨r, 0, none⟩)) ∧ w.heap.size ≤ r ∧ Blk w' r (cs tabT) 45 ∧ Below w.heap.size w w' := by
  have hne := zarr_ne (n := 512) (by omega)
  obtain ⟨L, hLe⟩ : ∃ L, L = invS 255 := ⟨_, rfl⟩
  have HN : Hid (L.length = 256) := by show _ = _; rw [hLe, invS_length]
  have HB : Hid (∀ k, k < 256 → bent (L.getD k 0) = boxT.getD k 0) := fun k hk => by rw [hLe]; exact boxT_at hk
  have CP : Hid (∀ w, Calls Try.prog 18 #[] w fun e w' => e = .returned (.agg (cs L).toArray) ∧ Below w.heap.size w w') := fun w => by rw [hLe]; exact oInverses w
  clear hLe
  go_enter Try.func7, Try.ntmps7
  go_wp2_with (first
    | (go_at_call 18; refine (CP.out _).mono ?_; rintro e w1 ⟨rfl, hb1⟩)
    | (with_reducible refine at_bd 45 ?_; refine bd 45 #[] [] (zarr 512) rfl builtT ?_))
  have d0 : Blk w1 w.heap.size (cs (tabs 0 0)) 45 := by rw [tabs_zero]; exact (Blk.new w (zarr 512) _).below hb1 (by simp)
  have hd : Below w.heap.size w w1 := (below_alloc w _).trans (hb1.mono (by simp))
  clear hb1
  go_loopw [2, 3, 7] (fun _ _ i wr => ∃ k : Nat, k ≤ 256 ∧ i = .int .i64 k ∧ Blk wr w.heap.size (cs (tabs k k)) 45 ∧ Below w.heap.size w wr) (fun _ _ i _ => 256 - (intOf i).toNat)
  case atStart => exact ⟨0, by omega, rfl, d0, hd⟩
  case round =>
    clear d0 hd
    obtain ⟨k, hk, rfl, b0, hb⟩ := hrel
    by_cases hlt : k < 256
    · have h0 : (0 : Int) ≤ (k : Int) := by omega
      have h8 : (k : Int) < 256 := by omega
      have hix := idx8 43 256 Try.underlying43 L k HN.out hlt
      have HX := HB.out k hlt
      obtain ⟨x, hx⟩ : ∃ x, x = L.getD k 0 := ⟨_, rfl⟩
      rw [← hx] at hix HX
      clear hx
      have c0 := b0.at8 (k := k) (by rw [tabs_length hk hk]; omega)
      have f0 := b0.free k
      have b1 := b0.set8 k (bent x)
      rw [HX, tabs_box hlt, ← HX] at b1
      have c1 := b1.at8 (k := 256 + k) (by rw [tabs_length (by omega) hk]; omega)
      have f1 := b1.free (256 + k)
      have b2 := b1.set8 (256 + k) (dbl (UInt8.ofNat k))
      rw [twT_at hlt, tabs_tw hlt, ← twT_at hlt] at b2
      obtain ⟨bx, hbx⟩ : ∃ bx, bx = bent x := ⟨_, rfl⟩
      have CB : Hid (∀ w, Calls Try.prog 19 #[.int .u8 (x.toNat : Int)] w fun e w' => e = .returned (.int .u8 (bx.toNat : Int)) ∧ w = w') := fun w => by rw [hbx]; exact oBent w x
      have CD : Hid (∀ w, Calls Try.prog 20 #[.int .u8 (IntKind.u8.wrap (k : Int))] w fun e w' => e = .returned (.int .u8 ((dbl (UInt8.ofNat k)).toNat : Int)) ∧ w = w') := fun w => by
        have := oDoubled w (UInt8.ofNat k)
        rw [UInt8.toNat_ofNat', Nat.mod_eq_of_lt (by omega)] at this
        rw [show IntKind.u8.wrap (k : Int) = (k : Int) from wrap_byte k hlt]
        exact this
      rw [← hbx] at b1 b2 c1 f1
      clear hbx HX
      generalize hdb : dbl (UInt8.ofNat k) = db at *
      clear hdb
      have B2 : Hid _ := b2
      clear b2 b1
      go_wp2_with fail
      go_region_with (go_at_call 19; refine (CB.out _).mono ?_; rintro e w2 ⟨rfl, rfl⟩)
      go_wp2_with fail
      go_region_with (go_at_call 20; refine (CD.out _).mono ?_; rintro e w2 ⟨rfl, rfl⟩)
      go_wp2_with fail
      go_roundw
      case rel => exact ⟨k + 1, by omega, by go_num, B2.out, (((hb.setCell (by simp) _).setCell (by simp) _).drew).drew⟩
      case measure => simp [intOf]; omega
    · obtain rfl : k = 256 := by omega
      rw [tabs_end] at b0
      go_wp2_with fail
      go_ret
      exact ⟨_, rfl, Nat.le_refl _, b0, hb⟩

/-- The tables lie at the head of block g. -/
def Tab (w : World) (g : Nat) : Prop := w.rangeAt g 0 (cs tabT)
theorem Tab.box {w : World} {g : Nat} (h : Tab w g) (x : UInt8) : w.cell? ⟨g, x.toNat, none⟩ = some (.int .u8 ((box x).toNat : Int)) := by
  have hx := b_lt x
  have := h x.toNat _ (cs_get (by rw [tabT_length]; omega))
  rw [Nat.zero_add, tab_box] at this
  exact this
theorem Tab.tw {w : World} {g : Nat} (h : Tab w g) (x : UInt8) : w.cell? ⟨g, 256 + x.toNat, none⟩ = some (.int .u8 ((dbl x).toNat : Int)) := by
  have hx := b_lt x
  have := h (256 + x.toNat) _ (cs_get (by rw [tabT_length]; omega))
  rw [Nat.zero_add, tab_tw] at this
  exact this
theorem Tab.lt {w : World} {g : Nat} (h : Tab w g) : g < w.heap.size := lt_of_cell (h.box 0)
theorem Tab.below {w w' : World} {g : Nat} (h : Tab w g) {B : Nat} (hb : Below B w w') (hB : g < B) : Tab w' g := fun j v hv => by
  rw [hb.cell (p := ⟨g, 0 + j, none⟩) hB]
  exact h j v hv
theorem Tab.dr {w : World} {g : Nat} (h : Tab w g) : Tab w.drew g := h
theorem Blk.tab {w : World} {g : Nat} {t : TypeId} (h : Blk w g (cs tabT) t) : Tab w g := h.whole

theorem oBox (w : World) (g : Nat) (h : Tab w g) (x : UInt8) :
    Calls Try.prog 8 #[.pointer (some ⟨g, 0, none⟩), .int .u8 (x.toNat : Int)] w fun e w' => e = .returned (.int .u8 ((box x).toNat : Int)) ∧ w = w' := by
  have hx := b_lt x
  have h0 : (0 : Int) ≤ (x.toNat : Int) := by omega
  have h1 : (x.toNat : Int) < 256 := by omega
  have c0 := h.box x
  go_enter Try.func8, Try.ntmps8
  go_wp2
  go_ret
  exact ⟨rfl, rfl⟩

end Go.Proofs.Ytofhnigdfmekdaa
