/-
  8 texts in one. No statement of the seat is proved here.
-/
import Derived.Test.YtbgdckhadfcnbaaG5
import Derived.Deep.RegionWith
import Derived.Deep.RegionHeld3
import Derived.Deep.DrawnRows
/-
  Rows of bytes that are filled one by one, as cells. No condition; nothing of the program.
-/
namespace Go.Proofs.Ytbgdckhadfcnbaa
open Go.RowKit

/-- The first k bytes of L, noughts behind, n in all. -/
def fill (L : List UInt8) (n k : Nat) : List UInt8 := L.take k ++ List.replicate (n - k) 0
theorem fill_length {L : List UInt8} {n k : Nat} (hL : L.length = n) (hk : k ≤ n) : (fill L n k).length = n := by simp [fill]; omega
theorem fill_set {L : List UInt8} {n k : Nat} (hL : L.length = n) (hk : k < n) : (fill L n k).set k (L.getD k 0) = fill L n (k + 1) := by
  have hl : (L.take k).length = k := by simp; omega
  unfold fill
  rw [List.set_append_right _ _ (by omega), hl, Nat.sub_self, take_snoc (by omega), List.append_assoc]
  congr 1
  rw [show n - k = (n - (k + 1)) + 1 from by omega, List.replicate_succ, List.set_cons_zero, List.getD_eq_getElem?_getD, List.getElem?_eq_getElem (by omega)]
  rfl
theorem fill_end {L : List UInt8} {n : Nat} (hL : L.length = n) : fill L n n = L := by
  simp [fill, ← hL]
theorem fill_zero (L : List UInt8) (n : Nat) : fill L n 0 = List.replicate n 0 := by simp [fill]
theorem cs_set (l : List UInt8) (k : Nat) (x : UInt8) : (cs l).set k (.int .u8 (x.toNat : Int)) = cs (l.set k x) := by simp [cs, List.map_set]
theorem cs_at {l : List UInt8} {k : Nat} (h : k < l.length) : (cs l)[k]? = some (.int .u8 ((l.getD k 0).toNat : Int)) := cs_get h
theorem Blk.at8 {w : World} {g : Nat} {l : List UInt8} {t : TypeId} (h : Blk w g (cs l) t) {k : Nat} (hk : k < l.length) : w.cell? ⟨g, k, none⟩ = some (.int .u8 ((l.getD k 0).toNat : Int)) := by
  rw [h.cell, cs_at hk]
theorem Blk.set8 {w : World} {g : Nat} {l : List UInt8} {t : TypeId} (h : Blk w g (cs l) t) (k : Nat) (x : UInt8) : Blk (w.setCell ⟨g, k, none⟩ (.int .u8 (x.toNat : Int))) g (cs (l.set k x)) t := by
  have := h.setC k (.int .u8 (x.toNat : Int))
  rw [cs_set] at this
  exact this

end Go.Proofs.Ytbgdckhadfcnbaa

/-
  Plain mathematics of blocks: rows that are written over one by one; shifted, mixed. No condition; nothing of the program.
-/
namespace Go.Proofs.Ytbgdckhadfcnbaa
open Go.RowKit

/-- The first k bytes of L, those of a behind. -/
def over (L a : List UInt8) (k : Nat) : List UInt8 := L.take k ++ a.drop k
theorem over_length {L a : List UInt8} (h : L.length = a.length) (k : Nat) : (over L a k).length = a.length := by simp [over]; omega
theorem over_at {L a : List UInt8} (h : L.length = a.length) {k j : Nat} (hk : k ≤ a.length) (hj : k ≤ j) : (over L a k).getD j 0 = a.getD j 0 := by
  have hl : (L.take k).length = k := by simp; omega
  unfold over
  rw [List.getD_eq_getElem?_getD, List.getElem?_append_right (by omega), hl, List.getElem?_drop, List.getD_eq_getElem?_getD, show k + (j - k) = j from by omega]
theorem over_set {L a : List UInt8} (h : L.length = a.length) {k : Nat} (hk : k < a.length) : (over L a k).set k (L.getD k 0) = over L a (k + 1) := by
  have hl : (L.take k).length = k := by simp; omega
  unfold over
  rw [List.set_append_right _ _ (by omega), hl, Nat.sub_self, take_snoc (by omega), List.append_assoc, List.drop_eq_getElem_cons hk, List.set_cons_zero, List.getD_eq_getElem?_getD, List.getElem?_eq_getElem (by omega)]
  rfl
theorem over_end {L a : List UInt8} (h : L.length = a.length) : over L a a.length = L := by
  simp [over, ← h]
theorem over_zero (L a : List UInt8) : over L a 0 = a := by simp [over]

theorem xorL_length {a b : List UInt8} (h : a.length = b.length) : (xorL a b).length = a.length := by simp [xorL]; omega
theorem xorL_at {a b : List UInt8} {k : Nat} (ha : k < a.length) (hb : k < b.length) : (xorL a b).getD k 0 = a.getD k 0 ^^^ b.getD k 0 := by
  unfold xorL
  rw [List.getD_eq_getElem?_getD, List.getElem?_zipWith, List.getElem?_eq_getElem ha, List.getElem?_eq_getElem hb, List.getD_eq_getElem?_getD, List.getD_eq_getElem?_getD, List.getElem?_eq_getElem ha, List.getElem?_eq_getElem hb]
  rfl

theorem map16_at (f : Nat → UInt8) {k : Nat} (hk : k < 16) : ((List.range 16).map f).getD k 0 = f k := by
  simp [List.getD_eq_getElem?_getD, hk]
theorem map16_length (f : Nat → UInt8) : ((List.range 16).map f).length = 16 := by simp

/-- A block's bytes through the box, each one from as many columns on as it is down its own. -/
def shf (b : List UInt8) : List UInt8 := (List.range 16).map fun i => box (b.getD ((i + i % 4 * 4) % 16) 0)
/-- A byte of a mixed column. -/
def mixAt (b : List UInt8) (i : Nat) : UInt8 :=
  dbl (b.getD (i / 4 * 4 + i % 4) 0 ^^^ b.getD (i / 4 * 4 + (i + 1) % 4) 0) ^^^ b.getD (i / 4 * 4 + (i + 1) % 4) 0 ^^^ b.getD (i / 4 * 4 + (i + 2) % 4) 0 ^^^ b.getD (i / 4 * 4 + (i + 3) % 4) 0
def mixL (b : List UInt8) : List UInt8 := (List.range 16).map (mixAt b)
theorem shf_length (b : List UInt8) : (shf b).length = 16 := map16_length _
theorem mixL_length (b : List UInt8) : (mixL b).length = 16 := map16_length _
theorem shf_at (b : List UInt8) {k : Nat} (hk : k < 16) : (shf b).getD k 0 = box (b.getD ((k + k % 4 * 4) % 16) 0) := map16_at _ hk
theorem mixL_at (b : List UInt8) {k : Nat} (hk : k < 16) : (mixL b).getD k 0 = mixAt b k := map16_at _ hk

theorem mix0 (b : List UInt8) (c : Nat) : mixAt b (4 * c) = dbl (b.getD (4 * c) 0 ^^^ b.getD (4 * c + 1) 0) ^^^ b.getD (4 * c + 1) 0 ^^^ b.getD (4 * c + 2) 0 ^^^ b.getD (4 * c + 3) 0 := by
  unfold mixAt
  rw [show 4 * c / 4 * 4 = 4 * c from by omega, show 4 * c % 4 = 0 from by omega, show (4 * c + 1) % 4 = 1 from by omega, show (4 * c + 2) % 4 = 2 from by omega, show (4 * c + 3) % 4 = 3 from by omega]
  rfl
theorem mix1 (b : List UInt8) (c : Nat) : mixAt b (4 * c + 1) = dbl (b.getD (4 * c + 1) 0 ^^^ b.getD (4 * c + 2) 0) ^^^ b.getD (4 * c + 2) 0 ^^^ b.getD (4 * c + 3) 0 ^^^ b.getD (4 * c) 0 := by
  unfold mixAt
  rw [show (4 * c + 1) / 4 * 4 = 4 * c from by omega, show (4 * c + 1) % 4 = 1 from by omega, show (4 * c + 1 + 1) % 4 = 2 from by omega, show (4 * c + 1 + 2) % 4 = 3 from by omega, show (4 * c + 1 + 3) % 4 = 0 from by omega]
  rfl
theorem mix2 (b : List UInt8) (c : Nat) : mixAt b (4 * c + 2) = dbl (b.getD (4 * c + 2) 0 ^^^ b.getD (4 * c + 3) 0) ^^^ b.getD (4 * c + 3) 0 ^^^ b.getD (4 * c) 0 ^^^ b.getD (4 * c + 1) 0 := by
  unfold mixAt
  rw [show (4 * c + 2) / 4 * 4 = 4 * c from by omega, show (4 * c + 2) % 4 = 2 from by omega, show (4 * c + 2 + 1) % 4 = 3 from by omega, show (4 * c + 2 + 2) % 4 = 0 from by omega, show (4 * c + 2 + 3) % 4 = 1 from by omega]
  rfl
theorem mix3 (b : List UInt8) (c : Nat) : mixAt b (4 * c + 3) = dbl (b.getD (4 * c + 3) 0 ^^^ b.getD (4 * c) 0) ^^^ b.getD (4 * c) 0 ^^^ b.getD (4 * c + 1) 0 ^^^ b.getD (4 * c + 2) 0 := by
  unfold mixAt
  rw [show (4 * c + 3) / 4 * 4 = 4 * c from by omega, show (4 * c + 3) % 4 = 3 from by omega, show (4 * c + 3 + 1) % 4 = 0 from by omega, show (4 * c + 3 + 2) % 4 = 1 from by omega, show (4 * c + 3 + 3) % 4 = 2 from by omega]
  rfl

end Go.Proofs.Ytbgdckhadfcnbaa

/-
  The contracts of 'doubled', 'RotateLeft8' and 'bent'. No condition but that bytes are turned by 1 to 7.
-/
namespace Go.Proofs.Ytbgdckhadfcnbaa
open Go.RowKit

theorem b_top (c : UInt8) : (c.toNat : Int) / (128 : Int) = ((c >>> 7).toNat : Int) := b_shr c 7 (by omega)
theorem b_two (c : UInt8) : (c.toNat : Int) * (2 : Int) % (256 : Int) = ((c <<< 1).toNat : Int) := b_shl c 1 (by omega)
theorem dbl_hi {c : UInt8} (h : (c.toNat : Int) / 128 = 1) : bits .xor .u8 ((c.toNat : Int) * 2 % 256) 27 = ((dbl c).toNat : Int) := by
  rw [b_top] at h
  have h1 : c >>> 7 = 1 := UInt8.toNat_inj.1 (by have : (1 : UInt8).toNat = 1 := rfl; omega)
  unfold dbl
  rw [if_pos h1, b_two]
  exact xor_u8 _ 27
theorem dbl_lo {c : UInt8} (h : ¬ (c.toNat : Int) / 128 = 1) : (c.toNat : Int) * 2 % 256 = ((dbl c).toNat : Int) := by
  rw [b_top] at h
  have h1 : ¬ c >>> 7 = 1 := by intro e; rw [e] at h; exact h rfl
  unfold dbl
  rw [if_neg h1, b_two]

theorem oDoubled (w : World) (c : UInt8) :
    Calls Try.prog 24 #[.int .u8 (c.toNat : Int)] w fun e w' => e = .returned (.int .u8 ((dbl c).toNat : Int)) ∧ w = w' := by
  by_cases h : (c.toNat : Int) / 128 = 1
  · have H : Hid (bits .xor .u8 ((c.toNat : Int) * 2 % 256) 27 = ((dbl c).toNat : Int)) := dbl_hi h
    go_enter Try.func24, Try.ntmps24
    go_wp2
    go_ret
    exact ⟨ret_int H.out, rfl⟩
  · have H : Hid ((c.toNat : Int) * 2 % 256 = ((dbl c).toNat : Int)) := dbl_lo h
    have h' : ((c.toNat : Int) / 128 == 1) = false := by simpa using h
    go_enter Try.func24, Try.ntmps24
    go_wp2
    go_ret
    exact ⟨ret_int H.out, rfl⟩

theorem and7 (n : Nat) (h2 : n ≤ 7) : bits .and .u64 (n : Int) 7 = (n : Int) := by
  have : ∀ n : Fin 8, bits .and .u64 (n.val : Int) 7 = (n.val : Int) := by decide +kernel
  exact this ⟨n, by omega⟩
theorem rot_b (x : UInt8) (n : Nat) (h1 : 1 ≤ n) (h2 : n ≤ 7) : bits .or .u8 ((x.toNat : Int) * 2 ^ n % 256) ((x.toNat : Int) / 2 ^ (8 - n)) = ((rotl x n).toNat : Int) := by
  rw [b_shl x n (by omega), b_shr x (8 - n) (by omega), b_or]
  rfl

theorem oRotl8 (w : World) (x : UInt8) (n : Nat) (h1 : 1 ≤ n) (h2 : n ≤ 7) :
    Calls Try.prog 44 #[.int .u8 (x.toNat : Int), .int .i64 (n : Int)] w fun e w' => e = .returned (.int .u8 ((rotl x n).toNat : Int)) ∧ w = w' := by
  have h3 : 1 ≤ (n : Int) := by omega
  have h4 : (n : Int) ≤ 7 := by omega
  have h5 : (0 : Int) ≤ 8 - n := by omega
  have h6 := and7 n h2
  have H := rot_b x n h1 h2
  have HH : Hid _ := H
  clear H
  go_enter Try.func44, Try.ntmps44
  go_wp2
  go_ret
  exact ⟨ret_int HH.out, rfl⟩

theorem bent_step (x : UInt8) (k : Nat) : bits .xor .u8 ((bentS x k).toNat : Int) ((rotl x (k + 1)).toNat : Int) = ((bentS x (k + 1)).toNat : Int) := by
  rw [xor_u8]
  rfl

theorem oBent (w : World) (x : UInt8) :
    Calls Try.prog 23 #[.int .u8 (x.toNat : Int)] w fun e w' => e = .returned (.int .u8 ((bent x).toNat : Int)) ∧ w = w' := by
  have H0 : Hid (bits .xor .u8 (x.toNat : Int) 99 = ((bentS x 0).toNat : Int)) := xor_u8 x 99
  go_enter Try.func23, Try.ntmps23
  go_wp2_with fail
  go_loop [3, 4] (fun o i => ∃ k : Nat, k ≤ 4 ∧ i = .int .i64 ((k : Int) + 1) ∧ o = .int .u8 ((bentS x k).toNat : Int)) (fun _ i => 5 - (intOf i).toNat)
  case atStart => exact ⟨0, by omega, rfl, by rw [H0.out]⟩
  case round =>
    obtain ⟨k, hk, rfl, rfl⟩ := hrel
    by_cases hlt : k < 4
    · have CR : Hid (Calls Try.prog 44 #[.int .u8 (x.toNat : Int), .int .i64 ((k : Int) + 1)] w fun e w' => e = .returned (.int .u8 ((rotl x (k + 1)).toNat : Int)) ∧ w = w') := by
        have := oRotl8 w x (k + 1) (by omega) (by omega)
        rw [show ((k + 1 : Nat) : Int) = (k : Int) + 1 from by omega] at this
        exact this
      have HS : Hid (_ = _) := bent_step x k
      have h1 : (k : Int) + 1 ≤ 4 := by omega
      clear H0
      go_wp2_with (go_at_call 44; refine CR.out.mono ?_; rintro e w1 ⟨rfl, rfl⟩)
      go_round
      case rel => exact ⟨k + 1, by omega, by go_num, by rw [HS.out]⟩
      case measure => simp [intOf]; omega
    · obtain rfl : k = 4 := by omega
      go_wp2
      go_ret
      exact ⟨rfl, rfl⟩

end Go.Proofs.Ytbgdckhadfcnbaa

/-
  The contracts of 'powersOfThree' and 'inverses'. No condition.
-/
namespace Go.Proofs.Ytbgdckhadfcnbaa
open Go.RowKit

theorem p3s_length : p3s.length = 255 := by simp [p3s]
theorem p3s_at {k : Nat} (h : k < 255) : p3s.getD k 0 = p3 k := by simp [p3s, List.getD_eq_getElem?_getD, h]
theorem sizeP : (Try.prog.info? 90).map (·.size) = some 255 := by kernel_rfl
theorem sizeB : (Try.prog.info? 50).map (·.size) = some 256 := by kernel_rfl
/-- So many noughts as cells, a name of its own. -/
def zarr (n : Nat) : Array Value := (cs (List.replicate n 0)).toArray
theorem zarr_toList (n : Nat) : (zarr n).toList = cs (List.replicate n 0) := rfl
theorem zarr_ne {n : Nat} (h : 0 < n) : ¬ zarr n = #[] := by
  intro e
  have := congrArg Array.size e
  simp [zarr, cs] at this
  omega
theorem zeroP : Try.zeroCells90 = zarr 255 := by kernel_rfl
theorem zeroB : Try.zeroCells50 = zarr 256 := by kernel_rfl
attribute [local go_sem] zeroP zeroB

theorem p3_step (k : Nat) : bits .xor .u8 ((p3 k).toNat : Int) ((dbl (p3 k)).toNat : Int) = ((p3 (k + 1)).toNat : Int) := by
  rw [xor_u8]
  rfl

set_option maxHeartbeats 1000000 in
theorem oPowers (w : World) :
    Calls Try.prog 43 #[] w fun e w' => e = .returned (.agg (cs p3s).toArray) ∧ Below w.heap.size w w' := by
  have hne := zarr_ne (n := 255) (by omega)
  go_enter Try.func43, Try.ntmps43
  go_wp2_with fail
  obtain ⟨W2, hW2⟩ : ∃ W2, W2 = (w.alloc (.cells (zarr 255) 90)).alloc (.cells (zarr 255) 90) := ⟨_, rfl⟩
  rw [← hW2]
  have d0 : Blk W2 w.heap.size (cs (List.replicate 255 0)) 90 := by rw [hW2, ← zarr_toList]; exact (Blk.new w _ _).old _
  have d1 : Blk W2 (w.heap.size + 1) (cs (fill p3s 255 0)) 90 := by rw [hW2, fill_zero, ← zarr_toList]; exact Blk.newAt (w.alloc _) _ _ _ (by simp) _ rfl
  have hd : Below w.heap.size w W2 := by rw [hW2]; exact below2 w _ _
  clear hW2
  go_loopw [2, 3, 4] (fun x _ i wr => ∃ k : Nat, k ≤ 255 ∧ i = .int .i64 k ∧ x = .int .u8 ((p3 k).toNat : Int) ∧ Blk wr w.heap.size (cs (List.replicate 255 0)) 90 ∧ Blk wr (w.heap.size + 1) (cs (fill p3s 255 k)) 90 ∧ Below w.heap.size w wr) (fun _ _ i _ => 255 - (intOf i).toNat)
  case atStart => exact ⟨0, by omega, rfl, rfl, d0, d1, hd⟩
  case round =>
    clear d0 d1 hd
    obtain ⟨k, hk, rfl, rfl, b0, b1, hb⟩ := hrel
    by_cases hlt : k < 255
    · have h0 : (0 : Int) ≤ (k : Int) := by omega
      have h8 : (k : Int) < 255 := by omega
      have c1 := b1.at8 (k := k) (by rw [fill_length p3s_length hk]; exact hlt)
      have f1 := b1.free k
      have b2 := b1.set8 k (p3 k)
      rw [← p3s_at hlt, fill_set p3s_length hlt, p3s_at hlt] at b2
      have B2 : Hid (Blk (wr.setCell ⟨w.heap.size + 1, k, none⟩ (.int .u8 ((p3 k).toNat : Int))) (w.heap.size + 1) (cs (fill p3s 255 (k + 1))) 90) := b2
      have HS : Hid (_ = _) := p3_step k
      clear b2
      go_wp2_with (go_at_call 24; refine (oDoubled _ _).mono ?_; rintro e w1 ⟨rfl, rfl⟩)
      go_roundw
      case rel => exact ⟨k + 1, by omega, by go_num, by rw [HS.out], b0.setO (by simp) _, B2.out, hb.setCell (by simp) _⟩
      case measure => simp [intOf]; omega
    · obtain rfl : k = 255 := by omega
      rw [fill_end p3s_length] at b1
      have HL : Hid ((cs p3s).length = 255) := by show _ = _; rw [cs_length, p3s_length]
      obtain ⟨L, hLe⟩ : ∃ L, L = p3s := ⟨_, rfl⟩
      rw [← hLe] at b1 HL
      have HE : Hid (L = p3s) := hLe
      clear hLe
      go_wp2_with (first
        | (with_reducible refine at_ld 90 ?_; refine ld 90 (.tmp 1) 255 sizeP _ Try.underlying90 rfl (w.heap.size + 1) 0 _ HL.out b1.whole rfl ?_)
        | (with_reducible refine at_st 90 ?_; refine st 90 (.tmp 0) (.tmp 15) 255 sizeP w.heap.size 0 _ HL.out cs_one (b0.there 0 255 (by rw [cs_length, List.length_replicate]; omega)) rfl rfl ?_))
      have b3 := b0.setsW (cs L) (by rw [HL.out, cs_length, List.length_replicate])
      exact bodyPost_ret (v := .agg (cs L).toArray) (res_blk Try.results43 _ _ w.heap.size _ _ _ rfl b3 Try.underlying90 255 HL.out sizeP) rfl ⟨by rw [HE.out], below_sets (Nat.le_refl _) _ hb 0⟩

/-- An element of a row of bytes. -/
theorem idx8 (ty : TypeId) (n : Nat) (hu : Try.prog.underlying ty = some (.array n 5)) (l : List UInt8) (k : Nat) (hl : l.length = n) (hk : k < n) (w : World) :
    Sem.run Try.prog (Instr.index ty (.agg (cs l).toArray) (.int .i64 (k : Int))) w = .ok (.int .u8 ((l.getD k 0).toNat : Int)) w := by
  simp [Instr.index, asIntOf, run_underlying hu, part, cs_at (show k < l.length by omega)]
  omega

theorem invS_length (k : Nat) : (invS k).length = 256 := by
  induction k with
  | zero => rw [invS, List.length_replicate]
  | succ k ih => rw [invS, List.length_set, ih]

set_option maxRecDepth 100000 in
set_option maxHeartbeats 1000000 in
theorem oInverses (w : World) :
    Calls Try.prog 22 #[] w fun e w' => e = .returned (.agg (cs (invS 255)).toArray) ∧ Below w.heap.size w w' := by
  have hne := zarr_ne (n := 255) (by omega)
  have hne' := zarr_ne (n := 256) (by omega)
  obtain ⟨L, hLe⟩ : ∃ L, L = p3s := ⟨_, rfl⟩
  have HLE : Hid (L = p3s) := hLe
  have hLL : L.length = 255 := by rw [hLe]; exact p3s_length
  have HL : Hid ((cs L).length = 255) := by show _ = _; rw [cs_length, hLL]
  have HN : Hid (L.length = 255) := hLL
  have CP : Hid (∀ w, Calls Try.prog 43 #[] w fun e w' => e = .returned (.agg (cs L).toArray) ∧ Below w.heap.size w w') := fun w => by rw [hLe]; exact oPowers w
  clear hLe hLL
  go_enter Try.func22, Try.ntmps22
  go_wp2_with (first
    | (go_at_call 43; refine (CP.out _).mono ?_; rintro e w1 ⟨rfl, hb1⟩)
    | (with_reducible refine at_st 90 ?_; refine st' 90 (.tmp 1) (.tmp 5) 255 sizeP w1.heap.size 0 _ HL.out cs_one ((Blk.new w1 (zarr 255) 90).there 0 255 (by rw [zarr_toList, cs_length, List.length_replicate]; omega)) rfl rfl ?_; intro w2 hw2
       have hs1 : w.heap.size + 1 ≤ w1.heap.size := by have := hb1.size; simpa using this
       have c0 : Blk w1 w.heap.size (cs (List.replicate 256 0)) 50 := (Blk.new w (zarr 256) 50).below hb1 (by simp)
       have c1 : Blk w2 w1.heap.size (cs L) 90 := by rw [hw2]; exact (Blk.new w1 (zarr 255) 90).setsW _ (by rw [HL.out, zarr_toList, cs_length, List.length_replicate])
       have c2 : Blk w2 w.heap.size (cs (List.replicate 256 0)) 50 := by rw [hw2]; exact Blk.setsO (by omega) _ (c0.old _) 0
       have hs2 : w2.heap.size = w1.heap.size + 1 := by rw [hw2, size_sets]; simp
       have hb2 : Below w.heap.size w w2 := by rw [hw2]; exact below_sets (by omega) _ (((below_alloc w _).trans (hb1.mono (by simp))).alloc (by omega) _) 0
       clear hw2 c0 hb1)
    | (with_reducible refine at_ld 90 ?_; refine ld 90 (.tmp 1) 255 sizeP _ Try.underlying90 rfl w1.heap.size 0 _ HL.out (c1.old _).whole rfl ?_))
  obtain ⟨W3, hW3⟩ : ∃ W3, W3 = w2.alloc (.cells (zarr 256) 50) := ⟨_, rfl⟩
  rw [← hW3]
  have d0 : Blk W3 w.heap.size (cs (List.replicate 256 0)) 50 := by rw [hW3]; exact c2.old _
  have d1 : Blk W3 w1.heap.size (cs L) 90 := by rw [hW3]; exact c1.old _
  have d2 : Blk W3 w2.heap.size (cs (invS 0)) 50 := by rw [hW3]; exact Blk.new w2 (zarr 256) _
  have hd : Below w.heap.size w W3 := by rw [hW3]; exact hb2.alloc hb2.size _
  clear hW3 c1 c2 hb2
  rw [hs2] at d2
  generalize hg1 : w1.heap.size = g1 at *
  clear hg1 hs2
  go_loopw [3, 4, 7] (fun _ _ i wr => ∃ k : Nat, k ≤ 255 ∧ i = .int .i64 k ∧ Blk wr w.heap.size (cs (List.replicate 256 0)) 50 ∧ Blk wr g1 (cs L) 90 ∧ Blk wr (g1 + 1) (cs (invS k)) 50 ∧ Below w.heap.size w wr) (fun _ _ i _ => 255 - (intOf i).toNat)
  case atStart => exact ⟨0, by omega, rfl, d0, d1, d2, hd⟩
  case round =>
    clear d0 d1 d2 hd
    obtain ⟨k, hk, rfl, b0, b1, b2, hb⟩ := hrel
    by_cases hlt : k < 255
    · have h0 : (0 : Int) ≤ (k : Int) := by omega
      have h8 : (k : Int) < 255 := by omega
      have hix := idx8 90 255 Try.underlying90 L k HN.out hlt
      obtain ⟨j, hj⟩ : ∃ j, j = (255 - k) % 255 := ⟨_, rfl⟩
      have hjl : j < 255 := by omega
      have hj0 : ((255 : Int) - (k : Int)) % 255 = (j : Int) := by omega
      have hj1 : ((255 : Int) - (k : Int)).tmod 255 = (j : Int) := by rw [Int.tmod_eq_emod_of_nonneg (by omega)]; omega
      have hj2 : (0 : Int) ≤ (j : Int) := by omega
      have hj3 : (j : Int) < 255 := by omega
      have c1 := b1.at8 (k := j) (by rw [HN.out]; exact hjl)
      have HI : Hid (invS (k + 1) = (invS k).set (L.getD k 0).toNat (L.getD j 0)) := by show _ = _; rw [HLE.out, hj, invS]
      obtain ⟨c, hc⟩ : ∃ c, c = L.getD k 0 := ⟨_, rfl⟩
      obtain ⟨y, hy⟩ : ∃ y, y = L.getD j 0 := ⟨_, rfl⟩
      rw [← hc] at hix HI
      rw [← hy] at c1 HI
      clear hc hy hj
      have hcl := b_lt c
      have hc0 : (0 : Int) ≤ (c.toNat : Int) := by omega
      have hc1 : (c.toNat : Int) < 256 := by omega
      have c2 := b2.at8 (k := c.toNat) (by rw [invS_length]; exact hcl)
      have f2 := b2.free c.toNat
      have e2 := b2.set8 c.toNat y
      rw [← HI.out] at e2
      have E2 : Hid (Blk (wr.setCell ⟨g1 + 1, c.toNat, none⟩ (.int .u8 (y.toNat : Int))) (g1 + 1) (cs (invS (k + 1))) 50) := e2
      clear e2 HI
      go_wp2_with fail
      go_roundw
      case rel => exact ⟨k + 1, by omega, by go_num, b0.setO (by simp; omega) _, b1.setO (by simp) _, E2.out, hb.setCell (by simp; omega) _⟩
      case measure => simp [intOf]; omega
    · obtain rfl : k = 255 := by omega
      obtain ⟨X, hX⟩ : ∃ X, X = invS 255 := ⟨_, rfl⟩
      have HXL : Hid ((cs X).length = 256) := by show _ = _; rw [hX, cs_length, invS_length]
      have HX : Hid (X = invS 255) := hX
      rw [← hX] at b2
      clear hX
      go_wp2_with (first
        | (with_reducible refine at_ld 50 ?_; refine ld 50 (.tmp 2) 256 sizeB _ Try.underlying50 rfl (g1 + 1) 0 _ HXL.out b2.whole rfl ?_)
        | (with_reducible refine at_st 50 ?_; refine st 50 (.tmp 0) (.tmp 19) 256 sizeB w.heap.size 0 _ HXL.out cs_one (b0.there 0 256 (by rw [cs_length, List.length_replicate]; omega)) rfl rfl ?_))
      have b3 := b0.setsW (cs X) (by rw [HXL.out, cs_length, List.length_replicate])
      exact bodyPost_ret (v := .agg (cs X).toArray) (res_blk Try.results22 _ _ w.heap.size _ _ _ rfl b3 Try.underlying50 256 HXL.out sizeB) rfl ⟨by rw [HX.out], below_sets (Nat.le_refl _) _ hb 0⟩

end Go.Proofs.Ytbgdckhadfcnbaa

/-
  The box by the powers of three is the box by its definition, at all bytes (reckoned by the kernel). No condition; nothing of the program.
-/
namespace Go.Proofs.Ytbgdckhadfcnbaa
open Go.RowKit

set_option maxRecDepth 100000 in
theorem inv_tab : (List.range 256).map (fun c => inv (UInt8.ofNat c)) = invS 255 := by decide +kernel
theorem bent_box (x : UInt8) : bent x = bxs x 8 := by
  have h : ∀ n : Fin 256, bent (UInt8.ofNat n.val) = bxs (UInt8.ofNat n.val) 8 := by decide +kernel
  have := h ⟨x.toNat, UInt8.toNat_lt x⟩
  simpa using this
theorem box_tab : (invS 255).map bent = boxT := by
  rw [← inv_tab, List.map_map]
  unfold boxT
  apply List.map_congr_left
  intro c _
  exact bent_box _

end Go.Proofs.Ytbgdckhadfcnbaa

/-
  The contracts of 'Build' and 'Box'. No condition but that the tables lie where the pointer leads.
-/
namespace Go.Proofs.Ytbgdckhadfcnbaa
open Go.RowKit

theorem builtT : Try.prog.built 52 [] = some (zarr 512) := by kernel_rfl

/-- The tables, behind so many bytes. -/
def tabs (i j : Nat) : List UInt8 := fill boxT 256 i ++ fill twT 256 j
theorem tabs_length {i j : Nat} (hi : i ≤ 256) (hj : j ≤ 256) : (tabs i j).length = 512 := by
  rw [tabs, List.length_append, fill_length boxT_length hi, fill_length twT_length hj]
theorem tabs_box {k : Nat} (hk : k < 256) : (tabs k k).set k (boxT.getD k 0) = tabs (k + 1) k := by
  rw [tabs, List.set_append_left _ _ (by rw [fill_length boxT_length (by omega)]; exact hk), fill_set boxT_length hk, tabs]
theorem tabs_tw {k : Nat} (hk : k < 256) : (tabs (k + 1) k).set (256 + k) (twT.getD k 0) = tabs (k + 1) (k + 1) := by
  rw [tabs, List.set_append_right _ _ (by rw [fill_length boxT_length (by omega)]; omega), fill_length boxT_length (by omega), Nat.add_sub_cancel_left, fill_set twT_length hk, tabs]
theorem tabs_zero : tabs 0 0 = List.replicate 512 0 := by
  rw [tabs, fill_zero, fill_zero, List.replicate_append_replicate]
theorem tabs_end : tabs 256 256 = tabT := by
  rw [tabs, fill_end boxT_length, fill_end twT_length, tabT]
theorem boxT_at {k : Nat} (hk : k < 256) : bent ((invS 255).getD k 0) = boxT.getD k 0 := by
  rw [← box_tab, List.getD_eq_getElem?_getD, List.getD_eq_getElem?_getD, List.getElem?_map, List.getElem?_eq_getElem (by rw [invS_length]; exact hk)]
  rfl
theorem wrap_byte (k : Nat) (hk : k < 256) : IntKind.u8.wrap (k : Int) = (k : Int) := by
  rw [IntKind.wrap_u8]
  omega
theorem twT_at {k : Nat} (hk : k < 256) : dbl (UInt8.ofNat k) = twT.getD k 0 := by
  simp [twT, List.getD_eq_getElem?_getD, hk]

set_option maxRecDepth 100000 in
set_option maxHeartbeats 1000000 in
theorem oBuild (w : World) :
    Calls Try.prog 9 #[] w fun e w' => ∃ r, e = .returned (.pointer (some ⟨r, 0, none⟩)) ∧ w.heap.size ≤ r ∧ Blk w' r (cs tabT) 52 ∧ Below w.heap.size w w' := by
  have hne := zarr_ne (n := 512) (by omega)
  obtain ⟨L, hLe⟩ : ∃ L, L = invS 255 := ⟨_, rfl⟩
  have HN : Hid (L.length = 256) := by show _ = _; rw [hLe, invS_length]
  have HB : Hid (∀ k, k < 256 → bent (L.getD k 0) = boxT.getD k 0) := fun k hk => by rw [hLe]; exact boxT_at hk
  have CP : Hid (∀ w, Calls Try.prog 22 #[] w fun e w' => e = .returned (.agg (cs L).toArray) ∧ Below w.heap.size w w') := fun w => by rw [hLe]; exact oInverses w
  clear hLe
  go_enter Try.func9, Try.ntmps9
  go_wp2_with (first
    | (go_at_call 22; refine (CP.out _).mono ?_; rintro e w1 ⟨rfl, hb1⟩)
    | (with_reducible refine at_bd 52 ?_; refine bd 52 #[] [] (zarr 512) rfl builtT ?_))
  have d0 : Blk w1 w.heap.size (cs (tabs 0 0)) 52 := by rw [tabs_zero]; exact (Blk.new w (zarr 512) _).below hb1 (by simp)
  have hd : Below w.heap.size w w1 := (below_alloc w _).trans (hb1.mono (by simp))
  clear hb1
  go_loopw [2, 3, 7] (fun _ _ i wr => ∃ k : Nat, k ≤ 256 ∧ i = .int .i64 k ∧ Blk wr w.heap.size (cs (tabs k k)) 52 ∧ Below w.heap.size w wr) (fun _ _ i _ => 256 - (intOf i).toNat)
  case atStart => exact ⟨0, by omega, rfl, d0, hd⟩
  case round =>
    clear d0 hd
    obtain ⟨k, hk, rfl, b0, hb⟩ := hrel
    by_cases hlt : k < 256
    · have h0 : (0 : Int) ≤ (k : Int) := by omega
      have h8 : (k : Int) < 256 := by omega
      have hix := idx8 50 256 Try.underlying50 L k HN.out hlt
      have HX := HB.out k hlt
      obtain ⟨x, hx⟩ : ∃ x, x = L.getD k 0 := ⟨_, rfl⟩
      rw [← hx] at hix HX
      clear hx
      have c0 := b0.at8 (k := k) (by rw [tabs_length hk hk]; omega)
      have f0 := b0.free k
      have b1 := b0.set8 k (bent x)
      rw [HX, tabs_box hlt, ← HX] at b1
      have c1 := b1.at8 (k := 256 + k) (by rw [tabs_length (by omega) hk]; omega)
      have f1 := b1.free (256 + k)
      have b2 := b1.set8 (256 + k) (dbl (UInt8.ofNat k))
      rw [twT_at hlt, tabs_tw hlt, ← twT_at hlt] at b2
      obtain ⟨bx, hbx⟩ : ∃ bx, bx = bent x := ⟨_, rfl⟩
      have CB : Hid (∀ w, Calls Try.prog 23 #[.int .u8 (x.toNat : Int)] w fun e w' => e = .returned (.int .u8 (bx.toNat : Int)) ∧ w = w') := fun w => by rw [hbx]; exact oBent w x
      have CD : Hid (∀ w, Calls Try.prog 24 #[.int .u8 (IntKind.u8.wrap (k : Int))] w fun e w' => e = .returned (.int .u8 ((dbl (UInt8.ofNat k)).toNat : Int)) ∧ w = w') := fun w => by
        have := oDoubled w (UInt8.ofNat k)
        rw [UInt8.toNat_ofNat', Nat.mod_eq_of_lt (by omega)] at this
        rw [show IntKind.u8.wrap (k : Int) = (k : Int) from wrap_byte k hlt]
        exact this
      rw [← hbx] at b1 b2 c1 f1
      clear hbx HX
      generalize hdb : dbl (UInt8.ofNat k) = db at *
      clear hdb
      have B2 : Hid _ := b2
      clear b2 b1
      go_wp2_with fail
      go_region_with (go_at_call 23; refine (CB.out _).mono ?_; rintro e w2 ⟨rfl, rfl⟩)
      go_wp2_with fail
      go_region_with (go_at_call 24; refine (CD.out _).mono ?_; rintro e w2 ⟨rfl, rfl⟩)
      go_wp2_with fail
      go_roundw
      case rel => exact ⟨k + 1, by omega, by go_num, B2.out, (((hb.setCell (by simp) _).setCell (by simp) _).drew).drew⟩
      case measure => simp [intOf]; omega
    · obtain rfl : k = 256 := by omega
      rw [tabs_end] at b0
      go_wp2_with fail
      go_ret
      exact ⟨_, rfl, Nat.le_refl _, b0, hb⟩

/-- The tables lie at the head of block g. -/
def Tab (w : World) (g : Nat) : Prop := w.rangeAt g 0 (cs tabT)
theorem Tab.box {w : World} {g : Nat} (h : Tab w g) (x : UInt8) : w.cell? ⟨g, x.toNat, none⟩ = some (.int .u8 ((box x).toNat : Int)) := by
  have hx := b_lt x
  have := h x.toNat _ (cs_get (by rw [tabT_length]; omega))
  rw [Nat.zero_add, tab_box] at this
  exact this
theorem Tab.tw {w : World} {g : Nat} (h : Tab w g) (x : UInt8) : w.cell? ⟨g, 256 + x.toNat, none⟩ = some (.int .u8 ((dbl x).toNat : Int)) := by
  have hx := b_lt x
  have := h (256 + x.toNat) _ (cs_get (by rw [tabT_length]; omega))
  rw [Nat.zero_add, tab_tw] at this
  exact this
theorem Tab.lt {w : World} {g : Nat} (h : Tab w g) : g < w.heap.size := lt_of_cell (h.box 0)
theorem Tab.below {w w' : World} {g : Nat} (h : Tab w g) {B : Nat} (hb : Below B w w') (hB : g < B) : Tab w' g := fun j v hv => by
  rw [hb.cell (p := ⟨g, 0 + j, none⟩) hB]
  exact h j v hv
theorem Tab.dr {w : World} {g : Nat} (h : Tab w g) : Tab w.drew g := h
theorem Blk.tab {w : World} {g : Nat} {t : TypeId} (h : Blk w g (cs tabT) t) : Tab w g := h.whole

end Go.Proofs.Ytbgdckhadfcnbaa

/-
  The contracts of 'added' and 'shifted'. Conditions: blocks of 16 bytes; the tables lie where the pointer leads.
-/
namespace Go.Proofs.Ytbgdckhadfcnbaa
open Go.RowKit
attribute [local go_sem ↓] Go.wp_at_zero Go.wp_at_succ


set_option maxHeartbeats 1000000 in
theorem oAdd (w : World) (a b : List UInt8) (ha : a.length = 16) (hb : b.length = 16) :
    Calls Try.prog 37 #[bv a, bv b] w fun e w' => e = .returned (bv (xorL a b)) ∧ Below w.heap.size w w' := by
  unfold bv
  have hx : (xorL a b).length = a.length := xorL_length (by omega)
  go_enter Try.func37, Try.ntmps37
  go_wp2_with fail
  go_loopw [5, 6] (fun _ i wr => ∃ k : Nat, k ≤ 16 ∧ i = .int .i64 k ∧ Blk wr w.heap.size (cs (over (xorL a b) a k)) 48 ∧ Blk wr (w.heap.size + 1) (cs b) 48 ∧ (∃ z : List UInt8, z.length = 16 ∧ Blk wr (w.heap.size + 1 + 1) (cs z) 48) ∧ Below w.heap.size w wr) (fun _ i _ => 16 - (intOf i).toNat)
  case atStart =>
    exact ⟨0, by omega, rfl, by rw [over_zero]; exact ((Blk.new w _ _).old _).old _, (Blk.newAt (w.alloc _) _ _ _ (by simp) _ rfl).old _, ⟨List.replicate 16 0, rfl, Blk.newAt ((w.alloc _).alloc _) _ _ _ (by simp) _ rfl⟩, below3 w _ _ _⟩
  case round =>
    obtain ⟨k, hk, rfl, b0, b1, ⟨z, hz, b2⟩, hbl⟩ := hrel
    by_cases hlt : k < 16
    · have c0 := b0.at8 (k := k) (by rw [over_length hx]; omega)
      rw [over_at hx (by omega) (Nat.le_refl _)] at c0
      have c1 := b1.at8 (k := k) (by omega)
      have f0 := b0.free k
      have h0 : (0 : Int) ≤ (k : Int) := by omega
      have h8 : (k : Int) < 16 := by omega
      have b3 := b0.set8 k ((xorL a b).getD k 0)
      rw [over_set hx (by omega), xorL_at (by omega) (by omega)] at b3
      generalize hp : a.getD k 0 = p at c0 b3
      generalize hq : b.getD k 0 = q at c1 b3
      have B3 : Hid (Blk (wr.setCell ⟨w.heap.size, k, none⟩ (.int .u8 ((p ^^^ q).toNat : Int))) w.heap.size (cs (over (xorL a b) a (k + 1))) 48) := b3
      have HX : Hid (bits .xor .u8 (p.toNat : Int) (q.toNat : Int) = ((p ^^^ q).toNat : Int)) := xor_u8 p q
      clear hp hq b3
      go_wp2_with fail
      go_region
      go_wp2_with fail
      go_roundw
      case rel =>
        refine ⟨k + 1, by omega, by go_num, ?_, b1.setO (by simp) _, ⟨z, hz, b2.setO (by simp; omega) _⟩, (hbl.setCell (Nat.le_refl _) _).drew⟩
        rw [HX.out]
        exact B3.out
      case measure => simp [intOf]; omega
    · obtain rfl : k = 16 := by omega
      rw [show (16 : Nat) = a.length from ha.symm, over_end hx] at b0
      have HL : Hid ((cs (xorL a b)).length = 16) := by show _ = _; rw [cs_length, hx, ha]
      go_wp2_with (first
        | (with_reducible refine at_ld 48 ?_; refine ld 48 (.tmp 2) 16 sizeK _ Try.underlying48 rfl w.heap.size 0 _ HL.out b0.whole rfl ?_)
        | (with_reducible refine at_st 48 ?_; refine st 48 (.tmp 4) (.tmp 18) 16 sizeK (w.heap.size + 1 + 1) 0 _ HL.out cs_one (b2.there 0 16 (by rw [cs_length, hz]; omega)) rfl rfl ?_))
      have b3 := b2.setsW (cs (xorL a b)) (by rw [HL.out, cs_length, hz])
      exact bodyPost_ret (v := .agg (cs (xorL a b)).toArray) (res_blk Try.results37 _ _ (w.heap.size + 1 + 1) _ _ _ rfl b3 Try.underlying48 16 HL.out sizeK) rfl ⟨rfl, below_sets (by omega) _ hbl 0⟩

set_option maxHeartbeats 1000000 in
theorem oShifted (w : World) (g : Nat) (hT : Tab w g) (b : List UInt8) (hb : b.length = 16) :
    Calls Try.prog 38 #[.pointer (some ⟨g, 0, none⟩), bv b] w fun e w' => e = .returned (bv (shf b)) ∧ Below w.heap.size w w' := by
  unfold bv
  have hgl := hT.lt
  go_enter Try.func38, Try.ntmps38
  go_wp2_with fail
  go_loopw [6, 7, 8] (fun _ _ i wr => ∃ k : Nat, k ≤ 16 ∧ i = .int .i64 k ∧ Blk wr w.heap.size (cs b) 48 ∧ (∃ z : List UInt8, z.length = 16 ∧ Blk wr (w.heap.size + 1) (cs z) 48) ∧ Blk wr (w.heap.size + 1 + 1) (cs (fill (shf b) 16 k)) 48 ∧ Below w.heap.size w wr) (fun _ _ i _ => 16 - (intOf i).toNat)
  case atStart =>
    exact ⟨0, by omega, rfl, ((Blk.new w _ _).old _).old _, ⟨List.replicate 16 0, rfl, (Blk.newAt (w.alloc _) _ _ _ (by simp) _ rfl).old _⟩, Blk.newAt ((w.alloc _).alloc _) _ _ _ (by simp) _ rfl, below3 w _ _ _⟩
  case round =>
    obtain ⟨k, hk, rfl, b0, ⟨z, hz, b1⟩, b2, hbl⟩ := hrel
    by_cases hlt : k < 16
    · have h0 : (0 : Int) ≤ (k : Int) := by omega
      have h8 : (k : Int) < 16 := by omega
      obtain ⟨j, hj⟩ : ∃ j, j = (k + k % 4 * 4) % 16 := ⟨_, rfl⟩
      have hjl : j < 16 := by omega
      obtain ⟨m, hm⟩ : ∃ m, m = k % 4 := ⟨_, rfl⟩
      have hm0 : (k : Int) % 4 = (m : Int) := by omega
      have hm1 : (k : Int).tmod 4 = (m : Int) := by rw [Int.tmod_eq_emod_of_nonneg (by omega)]; omega
      have hm2 : (m : Int) ≤ 3 := by omega
      have hj0 : ((k : Int) + (m : Int) * 4) % 16 = (j : Int) := by omega
      have hj1 : ((k : Int) + (m : Int) * 4).tmod 16 = (j : Int) := by rw [Int.tmod_eq_emod_of_nonneg (by omega)]; omega
      have hj2 : (0 : Int) ≤ (j : Int) := by omega
      have hj3 : (j : Int) < 16 := by omega
      have c0 := b0.at8 (k := j) (by omega)
      have HS := shf_at b hlt
      rw [← hj] at HS
      generalize hp : b.getD j 0 = p at c0 HS
      have hpl := b_lt p
      have hp0 : (0 : Int) ≤ (p.toNat : Int) := by omega
      have hp1 : (p.toNat : Int) < 256 := by omega
      have c1 := (hT.below hbl hgl).box p
      have c2 := b2.at8 (k := k) (by rw [fill_length (shf_length b) hk]; exact hlt)
      have f2 := b2.free k
      have b3 := b2.set8 k ((shf b).getD k 0)
      rw [fill_set (shf_length b) hlt, HS] at b3
      have B3 : Hid (Blk (wr.setCell ⟨w.heap.size + 1 + 1, k, none⟩ (.int .u8 ((box p).toNat : Int))) (w.heap.size + 1 + 1) (cs (fill (shf b) 16 (k + 1))) 48) := b3
      clear hp b3 HS hj hm
      go_wp2_with fail
      go_region
      go_wp2_with fail
      go_roundw
      case rel => exact ⟨k + 1, by omega, by go_num, b0.setO (by simp; omega) _, ⟨z, hz, b1.setO (by simp) _⟩, B3.out, (hbl.setCell (by simp; omega) _).drew⟩
      case measure => simp [intOf]; omega
    · obtain rfl : k = 16 := by omega
      rw [fill_end (shf_length b)] at b2
      have HL : Hid ((cs (shf b)).length = 16) := by show _ = _; rw [cs_length, shf_length]
      obtain ⟨X, hX⟩ : ∃ X, X = shf b := ⟨_, rfl⟩
      rw [← hX] at b2 HL
      have HX : Hid (X = shf b) := hX
      clear hX
      go_wp2_with (first
        | (with_reducible refine at_ld 48 ?_; refine ld 48 (.tmp 5) 16 sizeK _ Try.underlying48 rfl (w.heap.size + 1 + 1) 0 _ HL.out b2.whole rfl ?_)
        | (with_reducible refine at_st 48 ?_; refine st 48 (.tmp 4) (.tmp 28) 16 sizeK (w.heap.size + 1) 0 _ HL.out cs_one (b1.there 0 16 (by rw [cs_length, hz]; omega)) rfl rfl ?_))
      have b3 := b1.setsW (cs X) (by rw [HL.out, cs_length, hz])
      exact bodyPost_ret (v := .agg (cs X).toArray) (res_blk Try.results38 _ _ (w.heap.size + 1) _ _ _ rfl b3 Try.underlying48 16 HL.out sizeK) rfl ⟨by rw [HX.out], below_sets (by omega) _ hbl 0⟩

end Go.Proofs.Ytbgdckhadfcnbaa

/-
  The contract of 'mixed': a block with each of its columns mixed. Conditions: a block of 16 bytes; the tables lie where the pointer leads.
-/
namespace Go.Proofs.Ytbgdckhadfcnbaa
open Go.RowKit
attribute [local go_sem ↓] Go.wp_at_zero Go.wp_at_succ

set_option maxRecDepth 100000 in
set_option maxHeartbeats 2000000 in
theorem oMixed (w : World) (g : Nat) (hT : Tab w g) (b : List UInt8) (hb : b.length = 16) :
    Calls Try.prog 39 #[.pointer (some ⟨g, 0, none⟩), bv b] w fun e w' => e = .returned (bv (mixL b)) ∧ Below w.heap.size w w' := by
  unfold bv
  have hgl := hT.lt
  have hx : (mixL b).length = b.length := by rw [mixL_length, hb]
  go_enter Try.func39, Try.ntmps39
  go_wp2_with fail
  go_loopw [5, 6, 7, 8, 9] (fun i _ _ _ _ wr => ∃ c : Nat, c ≤ 4 ∧ i = .int .i64 ((4 * c : Nat) : Int) ∧ Blk wr w.heap.size (cs (over (mixL b) b (4 * c))) 48 ∧ (∃ z : List UInt8, z.length = 16 ∧ Blk wr (w.heap.size + 1) (cs z) 48) ∧ Below w.heap.size w wr) (fun i _ _ _ _ _ => 16 - (intOf i).toNat)
  case atStart =>
    exact ⟨0, by omega, rfl, by rw [over_zero]; exact (Blk.new w _ _).old _, ⟨List.replicate 16 0, rfl, Blk.newAt (w.alloc _) _ _ _ (by simp) _ rfl⟩, below2 w _ _⟩
  case round =>
    obtain ⟨c, hc, rfl, b0, ⟨z, hz, b1⟩, hbl⟩ := hrel
    by_cases hlt : c < 4
    · obtain ⟨k, hk⟩ : ∃ k, k = 4 * c := ⟨_, rfl⟩
      have M0 := mixL_at b (k := 4 * c) (by omega)
      have M1 := mixL_at b (k := 4 * c + 1) (by omega)
      have M2 := mixL_at b (k := 4 * c + 2) (by omega)
      have M3 := mixL_at b (k := 4 * c + 3) (by omega)
      rw [mix0] at M0
      rw [mix1] at M1
      rw [mix2] at M2
      rw [mix3] at M3
      rw [← hk] at M0 M1 M2 M3 b0 ⊢
      have h0 : (0 : Int) ≤ (k : Int) := by omega
      have h8 : (k : Int) ≤ 12 := by omega
      have e0 := b0.at8 (k := k) (by rw [over_length hx]; omega)
      have e1 := b0.at8 (k := k + 1) (by rw [over_length hx]; omega)
      have e2 := b0.at8 (k := k + 2) (by rw [over_length hx]; omega)
      have e3 := b0.at8 (k := k + 3) (by rw [over_length hx]; omega)
      rw [over_at hx (by omega) (by omega)] at e0 e1 e2 e3
      have HM : Hid (∀ w1 : World, Blk w1 w.heap.size (cs (over (mixL b) b k)) 48 → Blk ((((w1.setCell ⟨w.heap.size, k, none⟩ (.int .u8 ((mixL b).getD k 0).toNat)).setCell ⟨w.heap.size, k + 1, none⟩ (.int .u8 ((mixL b).getD (k + 1) 0).toNat)).setCell ⟨w.heap.size, k + 2, none⟩ (.int .u8 ((mixL b).getD (k + 2) 0).toNat)).setCell ⟨w.heap.size, k + 3, none⟩ (.int .u8 ((mixL b).getD (k + 3) 0).toNat)) w.heap.size (cs (over (mixL b) b (4 * (c + 1)))) 48) := fun w1 b0 => by
        have d0 := b0.set8 k ((mixL b).getD k 0)
        rw [over_set hx (by omega)] at d0
        have d1 := d0.set8 (k + 1) ((mixL b).getD (k + 1) 0)
        rw [over_set hx (by omega)] at d1
        have d2 := d1.set8 (k + 1 + 1) ((mixL b).getD (k + 2) 0)
        rw [over_set hx (by omega)] at d2
        have d3 := d2.set8 (k + 1 + 1 + 1) ((mixL b).getD (k + 3) 0)
        rw [over_set hx (by omega), show k + 1 + 1 + 1 + 1 = 4 * (c + 1) from by omega] at d3
        exact d3
      rw [M0, M1, M2, M3] at HM
      clear M0 M1 M2 M3
      generalize hp : b.getD k 0 = p at *
      generalize hq : b.getD (k + 1) 0 = q at *
      generalize hr : b.getD (k + 2) 0 = r at *
      generalize hs : b.getD (k + 3) 0 = s at *
      clear hp hq hr hs
      simp only [← xor_u8] at HM
      have hTr := hT.below hbl hgl
      have HK : Hid (k = 4 * c) := hk
      clear hk
      go_wp2_with fail
      go_quiet (fail)
      generalize hw1 : wr.drewN _ = w1
      have b0' : Blk w1 w.heap.size (cs (over (mixL b) b k)) 48 := by rw [← hw1]; exact b0
      have b1' : Blk w1 (w.heap.size + 1) (cs z) 48 := by rw [← hw1]; exact b1
      have hTw : Tab w1 g := by rw [← hw1]; exact hTr
      have hbw : Below w.heap.size w w1 := by rw [← hw1]; exact below_drN hbl _
      have r0 : w1.cell? ⟨w.heap.size, k, none⟩ = some (.int .u8 p.toNat) := by rw [← hw1]; exact e0
      have r1 : w1.cell? ⟨w.heap.size, k + 1, none⟩ = some (.int .u8 q.toNat) := by rw [← hw1]; exact e1
      have r2 : w1.cell? ⟨w.heap.size, k + 2, none⟩ = some (.int .u8 r.toNat) := by rw [← hw1]; exact e2
      have r3 : w1.cell? ⟨w.heap.size, k + 3, none⟩ = some (.int .u8 s.toNat) := by rw [← hw1]; exact e3
      clear hw1 e0 e1 e2 e3 b0 b1 hTr
      have f0 := b0'.free k
      have f1 := b0'.free (k + 1)
      have f2 := b0'.free (k + 2)
      have f3 := b0'.free (k + 3)
      have t0 := hTw.tw (p ^^^ q)
      have t1 := hTw.tw (q ^^^ r)
      have t2 := hTw.tw (r ^^^ s)
      have t3 := hTw.tw (s ^^^ p)
      have x0 := xor_u8 p q
      have x1 := xor_u8 q r
      have x2 := xor_u8 r s
      have x3 := xor_u8 s p
      generalize p ^^^ q = pq at *
      generalize q ^^^ r = qr at *
      generalize r ^^^ s = rs at *
      generalize s ^^^ p = sp at *
      have l0 := b_lt pq
      have l1 := b_lt qr
      have l2 := b_lt rs
      have l3 := b_lt sp
      have u0 : (pq.toNat : Int) < 256 := by omega
      have u1 : (qr.toNat : Int) < 256 := by omega
      have u2 : (rs.toNat : Int) < 256 := by omega
      have u3 : (sp.toNat : Int) < 256 := by omega
      have hn : ¬ g = w.heap.size := by omega
      have hn' : ¬ w.heap.size = g := by omega
      go_wp2_with fail
      go_roundw
      case rel =>
        refine ⟨c + 1, by omega, by rw [HK.out]; go_num, HM.out _ b0', ⟨z, hz, (((b1'.setO (by simp) _).setO (by simp) _).setO (by simp) _).setO (by simp) _⟩, (((hbw.setCell (Nat.le_refl _) _).setCell (Nat.le_refl _) _).setCell (Nat.le_refl _) _).setCell (Nat.le_refl _) _⟩
      case measure => have := HK.out; simp [intOf]; omega
    · obtain rfl : c = 4 := by omega
      rw [show 4 * 4 = b.length from hb.symm, over_end hx] at b0
      have HL : Hid ((cs (mixL b)).length = 16) := by show _ = _; rw [cs_length, mixL_length]
      obtain ⟨X, hX⟩ : ∃ X, X = mixL b := ⟨_, rfl⟩
      rw [← hX] at b0 HL
      have HX : Hid (X = mixL b) := hX
      clear hX
      go_wp2_with (first
        | (with_reducible refine at_ld 48 ?_; refine ld 48 (.tmp 3) 16 sizeK _ Try.underlying48 rfl w.heap.size 0 _ HL.out b0.whole rfl ?_)
        | (with_reducible refine at_st 48 ?_; refine st 48 (.tmp 4) (.tmp 96) 16 sizeK (w.heap.size + 1) 0 _ HL.out cs_one (b1.there 0 16 (by rw [cs_length, hz]; omega)) rfl rfl ?_))
      have b3 := b1.setsW (cs X) (by rw [HL.out, cs_length, hz])
      exact bodyPost_ret (v := .agg (cs X).toArray) (res_blk Try.results39 _ _ (w.heap.size + 1) _ _ _ rfl b3 Try.underlying48 16 HL.out sizeK) rfl ⟨by rw [HX.out], below_sets (by omega) _ hbl 0⟩

end Go.Proofs.Ytbgdckhadfcnbaa
