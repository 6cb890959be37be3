/-
  How layer 11's reference's tape lies in memory ('RT'); the contract of the reference's New. Conditions: at most 1000 keys.
-/
import Derived.Test.YtphkkbkfioaikaaTapPA
import Derived.Test.YtphkkbkfioaikaaOwB
import Derived.Deep.CutBlock
namespace Go.Proofs.Ytphkkbkfioaikaa
open Go.RowKit

/-- The reference's tape as cells, as a value. -/
def tcC (T : TapS) (q : Tri) : List Value := [.slice q.la q.ln q.lc, .int .i64 (T.next : Int)]
def tcV (T : TapS) (q : Tri) : Value := .agg (tcC T q).toArray
theorem tcC_one (T : TapS) (q : Tri) : ∀ v ∈ tcC T q, v.oneCell' = true := by
  intro v hv
  simp only [tcC, List.mem_cons, List.not_mem_nil, or_false] at hv
  rcases hv with rfl | rfl <;> rfl
/-- The reference's keys in memory. -/
def RT (A : Nat → Prop) (w : World) (l : List (List UInt8)) (q : Tri) : Prop := Sl (elB A) 1 A w q.la q.ln q.lc l
theorem RT.keep {A : Nat → Prop} {w w' : World} {l : List (List UInt8)} {q : Tri} (h : RT A w l q) (hs : w.heap.size ≤ w'.heap.size) (hk : ∀ j, j < w.heap.size → A j → w'.heap[j]? = w.heap[j]?) : RT A w' l q := Sl.keep h hs (elB.keep hk) hk
theorem RT.below {A : Nat → Prop} {w w' : World} {l : List (List UInt8)} {q : Tri} (h : RT A w l q) (hb : Below w.heap.size w w') : RT A w' l q := h.keep hb.size fun j hj _ => hb.block j hj
theorem RT.kp {A F : Nat → Prop} {w w' : World} {l : List (List UInt8)} {q : Tri} (h : RT A w l q) (k : Kp F w w') (hA : ∀ j, A j → ¬ F j) : RT A w' l q := h.keep k.size fun j hj ha => k.block j hj (hA j ha)
theorem RT.mono {A A' : Nat → Prop} {w : World} {l : List (List UInt8)} {q : Tri} (h : RT A w l q) (hA : ∀ j, j < w.heap.size → A j → A' j) : RT A' w l q := Sl.mono h (fun _ _ ⟨p, m, q, e, hb⟩ => ⟨p, m, q, e, hb.mono hA⟩) hA
theorem size28 : (Try.prog.info? 28).map (·.size) = some 2 := by kernel_rfl
theorem neT5 : 28 ≠ 5 := by decide

theorem key_more {b : List UInt8} {j : Nat} (h1 : j < 32) (h2 : j < b.length) : (b.take j ++ List.replicate (32 - j) 0).set j (b.getD j 0) = b.take (j + 1) ++ List.replicate (32 - (j + 1)) 0 := by
  rw [List.set_append_right _ _ (by rw [List.length_take]; omega), List.take_add_one, List.getElem?_eq_getElem h2, List.length_take, show j - min j b.length = 0 from by omega, show 32 - j = (32 - (j + 1)) + 1 from by omega, List.replicate_succ, List.set_cons_zero, List.getD_eq_getElem?_getD, List.getElem?_eq_getElem h2]
  simp only [Option.getD_some, Option.toList_some, List.append_assoc, List.cons_append, List.nil_append]
theorem key_done {b : List UInt8} {j : Nat} (h1 : j ≤ 32) (h2 : j ≤ b.length) (h : ¬ (j < 32 ∧ j < b.length)) : b.take j ++ List.replicate (32 - j) 0 = key32 b := by
  rw [key32_eq]
  by_cases hj : j = 32
  · subst hj
    rw [Nat.min_eq_right h2]
  · have e : j = b.length := by omega
    subst e
    rw [List.take_of_length_le (Nat.le_refl _), List.take_of_length_le (by omega), Nat.min_eq_left h1]
theorem keys_take {ls : List (List UInt8)} {k : Nat} (hk : k < ls.length) : (ls.take k).map key32 ++ [key32 (ls.getD k [])] = (ls.take (k + 1)).map key32 := by
  rw [List.take_succ_eq_append_getElem hk, List.map_append, List.getD_eq_getElem?_getD, List.getElem?_eq_getElem hk]
  rfl

set_option maxRecDepth 100000 in
set_option maxHeartbeats 4000000 in
theorem rTNew (w : World) {A : Nat → Prop} (hA : ∀ j, w.heap.size ≤ j → A j) {a : Option Addr} {n c : Nat} {ls : List (List UInt8)} (ha : Bss w a n c ls) (hn : n ≤ 1000) :
    Calls Try.prog 9 #[.slice a n c] w fun e w' => ∃ q, e = .returned (tcV (TapS.new ls) q) ∧ RT A w' (TapS.new ls).l q ∧ Below w.heap.size w w' := by
  have hl := ha.len
  have HA : Hid (Bss w a n c ls) := ha
  clear ha
  obtain ⟨B, hB⟩ : ∃ B : Nat → Prop, B = fun j => w.heap.size + 2 ≤ j := ⟨_, rfl⟩
  have HB : Hid (∀ j, B j ↔ w.heap.size + 2 ≤ j) := fun j => by rw [hB]
  clear hB
  have b0 : Blk ((w.alloc (.cells #[.slice none 0 0, .int .i64 0] 28)).alloc (.cells #[.slice none 0 0, .int .i64 0] 28)) (w.heap.size + 1) [.slice none 0 0, .int .i64 0] 28 := Blk.newAt (w.alloc _) _ _ (w.heap.size + 1) (by simp) _ rfl
  have z0 : Blk ((w.alloc (.cells #[.slice none 0 0, .int .i64 0] 28)).alloc (.cells #[.slice none 0 0, .int .i64 0] 28)) w.heap.size [.slice none 0 0, .int .i64 0] 28 := (Blk.newAt w _ _ w.heap.size rfl _ rfl).old _
  have k0 : Below w.heap.size w ((w.alloc (.cells #[.slice none 0 0, .int .i64 0] 28)).alloc (.cells #[.slice none 0 0, .int .i64 0] 28)) := below2 _ _ _
  have s0 : w.heap.size + 2 ≤ ((w.alloc (.cells #[.slice none 0 0, .int .i64 0] 28)).alloc (.cells #[.slice none 0 0, .int .i64 0] 28)).heap.size := by simp
  go_enter Try.func9, Try.ntmps9
  go_wp2_with fail
  go_loopw [4] (fun i wr => ∃ (k : Nat) (a1 : Option Addr) (n1 c1 : Nat), k ≤ n ∧ i = .int .i64 (k : Int) ∧ n1 = k ∧ Hid (OwS (elB B) 1 31 wr (w.heap.size + 2) (.slice a1 n1 c1) ((ls.take k).map key32)) ∧ Blk wr (w.heap.size + 1) [.slice a1 n1 c1, .int .i64 0] 28 ∧ Blk wr w.heap.size [.slice none 0 0, .int .i64 0] 28 ∧ Below w.heap.size w wr ∧ w.heap.size + 2 ≤ wr.heap.size) (fun i _ => n - (intOf i).toNat)
  case atStart => exact ⟨0, none, 0, 0, Nat.zero_le _, rfl, rfl, OwS.nil _ _ _ _ _, b0, z0, k0, s0⟩
  case round =>
    clear b0 z0 k0 s0
    obtain ⟨k, a1, n1, c1, hk, rfl, rfl, HO, bX, bZ, kb, hs⟩ := hrel
    rename World => wo
    by_cases hlt : n1 < n
    · obtain ⟨x, o, rfl, hx, hc⟩ := HA.out.at (by omega)
      obtain ⟨p, m, q, c2, hp⟩ := Bss.part hc kb n1 hlt
      have hp2 := hp.below kb (Nat.le_refl _)
      have HKT : Hid ((ls.take n1).map key32 ++ [key32 (ls.getD n1 [])] = (ls.take (n1 + 1)).map key32) := keys_take (by omega)
      have hxr : x < wo.heap.size := Nat.lt_of_lt_of_le hx kb.size
      have hbm := hp2.len
      generalize ls.getD n1 [] = b at *
      have i1 : (n1 : Int) < (n : Int) := by omega
      have hmx := hp2.max
      clear hc hp
      go_wp2_with (at_make; refine wpList_mkn _ rfl _ _ rfl wo.heap.size 32 32 rfl rfl rfl (by omega) (Nat.le_refl _) ?_; intro g w1 hg hgl hown hbel)
      go_loopw [6] (fun i wx => ∃ j : Nat, j ≤ 32 ∧ j ≤ m ∧ i = .int .i64 (j : Int) ∧ Own wx wo.heap.size (.slice (some ⟨g, 0, none⟩) 32 32) (b.take j ++ List.replicate (32 - j) 0) ∧ Below wo.heap.size wo wx) (fun i _ => 32 - (intOf i).toNat)
      case atStart => exact ⟨0, by omega, Nat.zero_le _, rfl, hown, hbel⟩
      case round =>
        clear hown hbel
        obtain ⟨j, hj, hjm, rfl, hox, hbx⟩ := hrel
        rename World => wx
        have cx : wx.cell? ⟨x, o + n1, none⟩ = some (.slice p m q) := by
          rw [hbx.cell (p := ⟨x, o + n1, none⟩) hxr]
          exact c2
        have hxx : x < wx.heap.size := Nat.lt_of_lt_of_le hxr hbx.size
        have hpx := hp2.below hbx (Nat.le_refl _)
        by_cases hjj : j < 32 ∧ j < m
        · obtain ⟨hj1, hj2⟩ := hjj
          obtain ⟨xb, xo, rfl, hxb, hcx⟩ := hpx.at (by omega)
          have cb := hcx j hj2
          have hlen : (b.take j ++ List.replicate (32 - j) (0 : UInt8)).length = 32 := by rw [List.length_append, List.length_take, List.length_replicate]; omega
          obtain ⟨v0, hcell⟩ := hox.cell hlen j hj1
          have hfr := hox.free hlen j
          have hglx := lt_of_cell hcell
          have ho2 := hox.set hlen j (b.getD j 0)
          rw [key_more hj1 (by omega)] at ho2
          have hb2 := hbx.setCell (p := ⟨g, j, none⟩) hg (.int .u8 ((b.getD j 0).toNat : Int))
          have HO2 : Hid (Own (wx.setCell ⟨g, j, none⟩ (.int .u8 (bt b j))) wo.heap.size (.slice (some ⟨g, 0, none⟩) 32 32) (b.take (j + 1) ++ List.replicate (32 - (j + 1)) 0)) := ho2
          have HB2 : Hid (Below wo.heap.size wo (wx.setCell ⟨g, j, none⟩ (.int .u8 (bt b j)))) := hb2
          have t1 : (j : Int) < 32 := by omega
          have t2 : (j : Int) < (m : Int) := by omega
          clear ho2 hb2 hox hbx hcx hpx hlen
          generalize bt b j = bj at *
          go_wp2_with fail
          go_roundw
          case rel => exact ⟨j + 1, by omega, by omega, by go_num, HO2.out, HB2.out⟩
          case measure => simp [intOf]; omega
        · have HE : b.take j ++ List.replicate (32 - j) 0 = key32 b := key_done hj (by omega) (by rw [hbm]; exact hjj)
          have hcx := trivial
          have hglx : g < wx.heap.size := (World.ownsRow.lt hox g rfl).2
          by_cases hj1 : j < 32
          · have t1 : (j : Int) < 32 := by omega
            have t2 : ¬ (j : Int) < (m : Int) := by omega
            have ho5 : B5 B wx (some ⟨g, 0, none⟩) 32 32 (key32 b) := by
              have h5 := hox.b5 (A := B) (fun j hj _ => (HB.out j).2 (by omega))
              rw [HE] at h5
              exact h5
            have HO5 : Hid (B5 B wx (some ⟨g, 0, none⟩) 32 32 (key32 b)) := ho5
            have bXx := bX.below hbx bX.lt
            have bZx := bZ.below hbx bZ.lt
            have HOx : Hid (OwS (elB B) 1 31 wx (w.heap.size + 2) (.slice a1 n1 c1) ((ls.take n1).map key32)) := OwB.below HO.out hbx
            have cX : wx.cell? ⟨w.heap.size + 1, 0, none⟩ = some (.slice a1 n1 c1) := bXx.cell 0
            have fX := bXx.free 0
            have hlX := bXx.lt
            have hsx : w.heap.size + 2 ≤ wx.heap.size := Nat.le_trans hs hbx.size
            have kbx : Below w.heap.size w wx := kb.trans (hbx.mono kb.size)
            clear hox ho5 bX bZ HO kb hbx hpx hcx
            go_wp2_with (at_builtin; go_must (refine wpList_slapp (elB B) 1 24 22 31 _ Try.underlying22 infoBy rfl (by decide) (by decide) (wx.alloc (.cells #[.slice (some ⟨g, 0, none⟩) 32 32] 31)) rfl (.tmp 39) (.tmp 41) rfl (w.heap.size + 2) (.slice a1 n1 c1) ((ls.take n1).map key32) rfl (OwB.below HOx.out (below_alloc _ _)) (fun _ => True) (some ⟨wx.heap.size, 0, none⟩) 1 1 [key32 b] rfl (Sl.one (t := 31) (vs := [.slice (some ⟨g, 0, none⟩) 32 32]) (Blk.newAt wx _ _ wx.heap.size rfl _ rfl) ⟨rfl, by intro v hv; simp at hv; subst hv; rfl, _, _, _, rfl, HO5.out.below (below_alloc _ _)⟩ trivial) (by simp; omega) (by rw [World.size_alloc]; omega) (fun w' x vs hg hx => elB.grown hg (OwS.not5 (OwB.below HOx.out (below_alloc wx _)) neB5) x vs hx) ?_; intro v6 w6 ho6 hg6; obtain ⟨a6, n6, c6, rfl, hn6⟩ := ho6.shape; have hb6 : Below (w.heap.size + 2) wx w6 := ((Below.refl _ wx).alloc hsx _).grown hg6 (by rw [World.size_alloc]; omega) (fun j hj => (HOx.out.lt j hj).1); have bX6 := bXx.below hb6 (by omega); have fX6 := bX6.free 0; have hlX6 := bX6.lt; have cX6 : w6.cell? ⟨w.heap.size + 1, 0, none⟩ = some (.slice a1 n1 c1) := bX6.cell 0))
            have bZ6 := bZx.below hb6 (by omega)
            have kb6 : Below w.heap.size w w6 := kbx.trans (hb6.mono (by omega))
            have bX7 : Blk (w6.setCell ⟨w.heap.size + 1, 0, none⟩ (.slice a6 n6 c6)) (w.heap.size + 1) [.slice a6 n6 c6, .int .i64 0] 28 := bX6.setC 0 (.slice a6 n6 c6)
            have bZ7 : Blk (w6.setCell ⟨w.heap.size + 1, 0, none⟩ (.slice a6 n6 c6)) w.heap.size [.slice none 0 0, .int .i64 0] 28 := bZ6.setO (by show ¬ w.heap.size = w.heap.size + 1; omega) _
            have HO7 : Hid (OwS (elB B) 1 31 (w6.setCell ⟨w.heap.size + 1, 0, none⟩ (.slice a6 n6 c6)) (w.heap.size + 2) (.slice a6 n6 c6) ((ls.take (n1 + 1)).map key32)) := (by show OwS _ _ _ _ _ _ _; rw [HKT.out] at ho6; exact OwB.grown ho6 (but_set w6 (w.heap.size + 1) 0 _) (by omega) (bX6.not5' neT5))
            have kb7 : Below w.heap.size w (w6.setCell ⟨w.heap.size + 1, 0, none⟩ (.slice a6 n6 c6)) := kb6.setCell (by show w.heap.size ≤ w.heap.size + 1; omega) _
            have s7 : w.heap.size + 2 ≤ (w6.setCell ⟨w.heap.size + 1, 0, none⟩ (.slice a6 n6 c6)).heap.size := Nat.le_trans hsx (Nat.le_trans hb6.size (by simp [World.setCell]))
            have hn7 : n6 = n1 + 1 := (by rw [← hn6, HKT.out, List.length_map, List.length_take]; omega)
            have HX7 : Hid (Blk (w6.setCell ⟨w.heap.size + 1, 0, none⟩ (.slice a6 n6 c6)) (w.heap.size + 1) [.slice a6 n6 c6, .int .i64 0] 28) := bX7
            have HZ7 : Hid (Blk (w6.setCell ⟨w.heap.size + 1, 0, none⟩ (.slice a6 n6 c6)) w.heap.size [.slice none 0 0, .int .i64 0] 28) := bZ7
            have HK7 : Hid (Below w.heap.size w (w6.setCell ⟨w.heap.size + 1, 0, none⟩ (.slice a6 n6 c6))) := kb7
            have HS7 : Hid (w.heap.size + 2 ≤ (w6.setCell ⟨w.heap.size + 1, 0, none⟩ (.slice a6 n6 c6)).heap.size) := s7
            have HN7 : Hid (n6 = n1 + 1) := hn7
            go_roundw
            case rel => exact ⟨n1 + 1, a6, n6, c6, by omega, by go_num, HN7.out, HO7, HX7.out, HZ7.out, HK7.out, HS7.out⟩
            case measure => simp [intOf]; omega
          · have t1 : ¬ (j : Int) < 32 := by omega
            have ho5 : B5 B wx (some ⟨g, 0, none⟩) 32 32 (key32 b) := by
              have h5 := hox.b5 (A := B) (fun j hj _ => (HB.out j).2 (by omega))
              rw [HE] at h5
              exact h5
            have HO5 : Hid (B5 B wx (some ⟨g, 0, none⟩) 32 32 (key32 b)) := ho5
            have bXx := bX.below hbx bX.lt
            have bZx := bZ.below hbx bZ.lt
            have HOx : Hid (OwS (elB B) 1 31 wx (w.heap.size + 2) (.slice a1 n1 c1) ((ls.take n1).map key32)) := OwB.below HO.out hbx
            have cX : wx.cell? ⟨w.heap.size + 1, 0, none⟩ = some (.slice a1 n1 c1) := bXx.cell 0
            have fX := bXx.free 0
            have hlX := bXx.lt
            have hsx : w.heap.size + 2 ≤ wx.heap.size := Nat.le_trans hs hbx.size
            have kbx : Below w.heap.size w wx := kb.trans (hbx.mono kb.size)
            clear hox ho5 bX bZ HO kb hbx hpx hcx
            go_wp2_with (at_builtin; go_must (refine wpList_slapp (elB B) 1 24 22 31 _ Try.underlying22 infoBy rfl (by decide) (by decide) (wx.alloc (.cells #[.slice (some ⟨g, 0, none⟩) 32 32] 31)) rfl (.tmp 39) (.tmp 41) rfl (w.heap.size + 2) (.slice a1 n1 c1) ((ls.take n1).map key32) rfl (OwB.below HOx.out (below_alloc _ _)) (fun _ => True) (some ⟨wx.heap.size, 0, none⟩) 1 1 [key32 b] rfl (Sl.one (t := 31) (vs := [.slice (some ⟨g, 0, none⟩) 32 32]) (Blk.newAt wx _ _ wx.heap.size rfl _ rfl) ⟨rfl, by intro v hv; simp at hv; subst hv; rfl, _, _, _, rfl, HO5.out.below (below_alloc _ _)⟩ trivial) (by simp; omega) (by rw [World.size_alloc]; omega) (fun w' x vs hg hx => elB.grown hg (OwS.not5 (OwB.below HOx.out (below_alloc wx _)) neB5) x vs hx) ?_; intro v6 w6 ho6 hg6; obtain ⟨a6, n6, c6, rfl, hn6⟩ := ho6.shape; have hb6 : Below (w.heap.size + 2) wx w6 := ((Below.refl _ wx).alloc hsx _).grown hg6 (by rw [World.size_alloc]; omega) (fun j hj => (HOx.out.lt j hj).1); have bX6 := bXx.below hb6 (by omega); have fX6 := bX6.free 0; have hlX6 := bX6.lt; have cX6 : w6.cell? ⟨w.heap.size + 1, 0, none⟩ = some (.slice a1 n1 c1) := bX6.cell 0))
            have bZ6 := bZx.below hb6 (by omega)
            have kb6 : Below w.heap.size w w6 := kbx.trans (hb6.mono (by omega))
            have bX7 : Blk (w6.setCell ⟨w.heap.size + 1, 0, none⟩ (.slice a6 n6 c6)) (w.heap.size + 1) [.slice a6 n6 c6, .int .i64 0] 28 := bX6.setC 0 (.slice a6 n6 c6)
            have bZ7 : Blk (w6.setCell ⟨w.heap.size + 1, 0, none⟩ (.slice a6 n6 c6)) w.heap.size [.slice none 0 0, .int .i64 0] 28 := bZ6.setO (by show ¬ w.heap.size = w.heap.size + 1; omega) _
            have HO7 : Hid (OwS (elB B) 1 31 (w6.setCell ⟨w.heap.size + 1, 0, none⟩ (.slice a6 n6 c6)) (w.heap.size + 2) (.slice a6 n6 c6) ((ls.take (n1 + 1)).map key32)) := (by show OwS _ _ _ _ _ _ _; rw [HKT.out] at ho6; exact OwB.grown ho6 (but_set w6 (w.heap.size + 1) 0 _) (by omega) (bX6.not5' neT5))
            have kb7 : Below w.heap.size w (w6.setCell ⟨w.heap.size + 1, 0, none⟩ (.slice a6 n6 c6)) := kb6.setCell (by show w.heap.size ≤ w.heap.size + 1; omega) _
            have s7 : w.heap.size + 2 ≤ (w6.setCell ⟨w.heap.size + 1, 0, none⟩ (.slice a6 n6 c6)).heap.size := Nat.le_trans hsx (Nat.le_trans hb6.size (by simp [World.setCell]))
            have hn7 : n6 = n1 + 1 := (by rw [← hn6, HKT.out, List.length_map, List.length_take]; omega)
            have HX7 : Hid (Blk (w6.setCell ⟨w.heap.size + 1, 0, none⟩ (.slice a6 n6 c6)) (w.heap.size + 1) [.slice a6 n6 c6, .int .i64 0] 28) := bX7
            have HZ7 : Hid (Blk (w6.setCell ⟨w.heap.size + 1, 0, none⟩ (.slice a6 n6 c6)) w.heap.size [.slice none 0 0, .int .i64 0] 28) := bZ7
            have HK7 : Hid (Below w.heap.size w (w6.setCell ⟨w.heap.size + 1, 0, none⟩ (.slice a6 n6 c6))) := kb7
            have HS7 : Hid (w.heap.size + 2 ≤ (w6.setCell ⟨w.heap.size + 1, 0, none⟩ (.slice a6 n6 c6)).heap.size) := s7
            have HN7 : Hid (n6 = n1 + 1) := hn7
            go_roundw
            case rel => exact ⟨n1 + 1, a6, n6, c6, by omega, by go_num, HN7.out, HO7, HX7.out, HZ7.out, HK7.out, HS7.out⟩
            case measure => simp [intOf]; omega
    · obtain rfl : n1 = n := by omega
      have i1 : ¬ (n1 : Int) < (n1 : Int) := by omega
      have kcc : tcC (TapS.new ls) ⟨a1, n1, c1⟩ = [.slice a1 n1 c1, .int .i64 0] := rfl
      rw [← kcc] at bX
      clear kcc
      go_wp2_with (first | ((with_reducible refine at_ld 28 ?_); (refine ld 28 (.tmp 3) 2 size28 _ Try.underlying28 rfl (w.heap.size + 1) 0 (tcC (TapS.new ls) ⟨a1, n1, c1⟩) rfl bX.whole rfl ?_)) | ((with_reducible refine at_st 28 ?_); (refine st' 28 (.tmp 2) (.tmp 44) 2 size28 w.heap.size 0 (tcC (TapS.new ls) ⟨a1, n1, c1⟩) rfl (tcC_one _ _) (bZ.there 0 2 (by simp)) rfl rfl ?_); intro w8 hw8))
      have b8 : Blk w8 w.heap.size (tcC (TapS.new ls) ⟨a1, n1, c1⟩) 28 := by rw [hw8]; exact bZ.setsW _ rfl
      have k8 : Below w.heap.size w w8 := by rw [hw8]; exact below_sets (Nat.le_refl _) _ kb 0
      have g8 : wo.grownBy w8 (some w.heap.size) := by rw [hw8]; exact but_cells' _ _ _ _
      have o8 := OwB.grown HO.out g8 (by omega) (bZ.not5' neT5)
      rw [show ls.take n1 = ls from List.take_of_length_le (by omega)] at o8
      have hrd : RT A w8 (TapS.new ls).l ⟨a1, n1, c1⟩ := RT.mono (A := B) (o8.sl3 (fun j hj _ => (HB.out j).2 hj)) fun j _ hj => hA j (by have := (HB.out j).1 hj; omega)
      rw [← hw8]
      exact bodyPost_ret (v := tcV (TapS.new ls) ⟨a1, n1, c1⟩) (results_cell_row Try.results9 _ _ w.heap.size 28 (tcC (TapS.new ls) ⟨a1, n1, c1⟩).toArray (0, 0) _ rfl b8 Try.underlying28 rfl size28) rfl ⟨_, rfl, hrd, k8⟩

end Go.Proofs.Ytphkkbkfioaikaa
