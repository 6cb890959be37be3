/-
  The contract of 'works', the smoke that all statements of layer 1 end with: it answers true, and turns nothing that was there. No condition.
-/
import Derived.Test.YtabokdffhomhiaaReader
import Derived.Lib.SlBytesConst
namespace Go.Proofs.Ytabokdffhomhiaa
open Go.RowKit

theorem Own.but {w w' : World} {base r : Nat} {v : Value} {l : List UInt8} (h : Own w base v l) (hg : w.grownBy w' (some r)) (hr : r < base) : Own w' base v l := by
  refine World.ownsRow.kept h hg (Or.inr ?_)
  intro e
  have := (World.ownsRow.lt h r e).1
  omega

theorem wText (w : World) (r : Nat) (h : Rd w r [0, 2, 7, 8, 9] 0) : Calls Try.prog 31 #[.pointer (some ⟨r, 0, none⟩), .int .i64 2, .int .i64 5] w fun e w' =>
    ∃ a m q, e = .returned (.slice a m q) ∧ Own w' w.heap.size (.slice a m q) [7, 8] ∧ Rd w' r [9] 0 ∧ w.grownBy w' (some r) := by
  have := oText w r h 2 5 (by simp) (by omega) (by omega) (by omega) (by omega)
  rw [show rdText [0, 2, 7, 8, 9] 0 2 5 = ([9], 0, [7, 8]) from by decide] at this
  exact this
theorem wNum1 (w : World) (r : Nat) (h : Rd w r [9] 0) : Calls Try.prog 27 #[.pointer (some ⟨r, 0, none⟩), .int .i64 1] w fun e w' => e = .returned (.int .u64 9) ∧ Rd w' r [] 0 ∧ w.grownBy w' (some r) := by
  have := oNumber w r h 1 (by simp) (by omega) (by omega)
  rw [show rdBytes [9] 0 1 = ([], 0, [9]) from by decide] at this
  exact this
theorem wNum2 (w : World) (r : Nat) (h : Rd w r [] 0) : Calls Try.prog 27 #[.pointer (some ⟨r, 0, none⟩), .int .i64 1] w fun e w' => e = .returned (.int .u64 0) ∧ Rd w' r [] 3 ∧ w.grownBy w' (some r) := by
  have := oNumber w r h 1 (by simp) (by omega) (by omega)
  rw [show rdBytes [] 0 1 = ([], 3, []) from by decide] at this
  exact this
theorem wPut (w : World) : Calls Try.prog 10 #[.int .u64 258, .int .i64 3] w (Gives w [0, 1, 2]) := by
  have := oPut 258 3 w (by omega) (by omega) (by omega) (by omega)
  rw [show putL (258 : Int).toNat (3 : Int).toNat = [0, 1, 2] from by decide] at this
  exact this
theorem wGet (w : World) {a : Option Addr} {n c : Nat} (h : Bs w a n c [0, 1, 2]) : Calls Try.prog 12 #[.slice a n c] w fun e w' => e = .returned (.int .u64 258) ∧ w = w' := by
  have := oGet w h
  rw [show getN [0, 1, 2] = 258 from by decide] at this
  exact this

theorem cell_new (w : World) (arr : Array Value) (t : TypeId) (f : Nat × Nat) (i : Nat) : (w.alloc (.cells arr t f)).cell? ⟨w.heap.size, i, none⟩ = arr[i]? := by
  unfold World.cell?
  rw [show (w.alloc (.cells arr t f)).heap[w.heap.size]? = some (.cells arr t f) from by show (w.heap.push _)[w.heap.size]? = _; simp]
  simp
theorem Bs.marked (w : World) (l : List UInt8) (arr : Array Value) (f : Nat × Nat) (h : arr.toList = cs l) (hm : l.length ≤ 1000000) : Bs (w.alloc (.cells arr 5 f)) (some ⟨w.heap.size, 0, none⟩) l.length l.length l := by
  refine ⟨rfl, Nat.le_refl _, by unfold maxLen; omega, by simp, fun i hi => ⟨w.heap.size, 0, rfl, ?_⟩⟩
  rw [Nat.zero_add, cell_new, ← Array.getElem?_toList, h, cs_get hi]
theorem Bss.three {w : World} {a1 a2 a3 : Option Addr} {n1 c1 n2 c2 n3 c3 : Nat} {l1 l2 l3 : List UInt8} (h1 : Bs w a1 n1 c1 l1) (h2 : Bs w a2 n2 c2 l2) (h3 : Bs w a3 n3 c3 l3) :
    Bss (w.alloc (.cells #[.slice a1 n1 c1, .slice a2 n2 c2, .slice a3 n3 c3] 23)) (some ⟨w.heap.size, 0, none⟩) 3 3 [l1, l2, l3] := by
  refine ⟨rfl, Nat.le_refl _, by unfold maxLen; omega, fun i hi => ?_⟩
  match i, hi with
  | 0, _ => exact ⟨w.heap.size, 0, a1, n1, c1, rfl, by rw [cell_new]; rfl, h1.below (below_alloc _ _) (Nat.le_refl _)⟩
  | 1, _ => exact ⟨w.heap.size, 0, a2, n2, c2, rfl, by rw [cell_new]; rfl, h2.below (below_alloc _ _) (Nat.le_refl _)⟩
  | 2, _ => exact ⟨w.heap.size, 0, a3, n3, c3, rfl, by rw [cell_new]; rfl, h3.below (below_alloc _ _) (Nat.le_refl _)⟩
theorem below2 (w : World) (o p : Obj) : Below w.heap.size w ((w.alloc o).alloc p) := (below_alloc _ _).alloc (by simp) _
theorem below3 (w : World) (o p q : Obj) : Below w.heap.size w (((w.alloc o).alloc p).alloc q) := (below2 _ _ _).alloc (by simp; omega) _
theorem conv2 (w : World) (o : Obj) (C : Array Value) (n c : Nat) : Sem.run Try.prog (convert 23 23 (.slice (some ⟨w.heap.size + 1, 0, none⟩) n c)) ((w.alloc o).alloc (.cells C 5)) = .ok (.slice (some ⟨w.heap.size + 1, 0, none⟩) n c) ((w.alloc o).alloc (.cells C 5 (C.size, C.size + 1))) := by
  have := Lib.run_convert_bytes_const (P := Try.prog) (w.alloc o) 23 5 C n c Try.underlying23 Try.underlying5
  rw [World.size_alloc] at this
  exact this
theorem size2 (w : World) (o p : Obj) : ((w.alloc o).alloc p).heap.size = w.heap.size + 2 := by simp
theorem wPack (w : World) : Calls Try.prog 16 #[.slice (some ⟨w.heap.size + 1, 0, none⟩) 1 1] ((w.alloc (.cells #[.int .u8 97] 5 (1, 2))).alloc (.cells #[.slice (some ⟨w.heap.size, 0, none⟩) 1 1] 23)) fun e w' =>
    ∃ a m c, e = .returned (.slice a m c) ∧ Own w' w.heap.size (.slice a m c) [0, 0, 0, 1, 97] ∧ Below w.heap.size w w' := by
  have h := Bss.one (Bs.marked w [97] #[.int .u8 97] (1, 2) rfl (by simp))
  rw [World.size_alloc] at h
  have hP := oPack _ h (by simp [tot]) (by omega)
  rw [show packL [[97]] = [0, 0, 0, 1, 97] from by decide] at hP
  refine hP.mono ?_
  rintro e w' ⟨a, m, c, rfl, ho, hb⟩
  rw [size2] at ho hb
  exact ⟨a, m, c, rfl, ho.mono (by omega), (below2 _ _ _).trans (hb.mono (by omega))⟩
theorem wHex (w : World) : Calls Try.prog 23 #[.slice (some ⟨w.heap.size, 0, none⟩) 1 1] (w.alloc (.cells #[.int .u8 171] 5)) fun e w' => e = .returned (.string ⟨#[97, 98]⟩) ∧ Below w.heap.size w w' := by
  have hP := oHex _ (Bs.made w [171] #[.int .u8 171] rfl (by simp)) (by simp)
  rw [show hexL [171] = [97, 98] from by decide] at hP
  refine hP.mono ?_
  rintro e w' ⟨rfl, hb⟩
  exact ⟨rfl, (below_alloc _ _).trans (hb.mono (by simp))⟩
theorem wSame (w : World) : Calls Try.prog 19 #[.slice (some ⟨w.heap.size, 0, none⟩) 1 1, .slice (some ⟨w.heap.size + 1, 0, none⟩) 1 1] ((w.alloc (.cells #[.int .u8 1] 5)).alloc (.cells #[.int .u8 1] 5)) fun e w' => e = .returned (.bool true) ∧ Below w.heap.size w w' := by
  have h1 := (Bs.made w [1] #[.int .u8 1] rfl (by simp)).below (below_alloc _ (.cells #[.int .u8 1] 5)) (Nat.le_refl _)
  have h2 := Bs.made (w.alloc (.cells #[.int .u8 1] 5)) [1] #[.int .u8 1] rfl (by simp)
  rw [World.size_alloc] at h2
  have hP := oSame _ h1 h2
  refine hP.mono ?_
  rintro e w' ⟨rfl, rfl⟩
  exact ⟨ret_bool (by decide), below2 _ _ _⟩
theorem wJoin (w : World) : Calls Try.prog 15 #[.slice (some ⟨w.heap.size + 2, 0, none⟩) 3 3] (((w.alloc (.cells #[.int .u8 97] 5 (1, 2))).alloc (.cells #[.int .u8 98] 5 (1, 2))).alloc (.cells #[.slice (some ⟨w.heap.size, 0, none⟩) 1 1, .slice none 0 0, .slice (some ⟨w.heap.size + 1, 0, none⟩) 1 1] 23)) fun e w' =>
    ∃ a m c, e = .returned (.slice a m c) ∧ Own w' w.heap.size (.slice a m c) [97, 98] ∧ Below w.heap.size w w' := by
  have h1 := (Bs.marked w [97] #[.int .u8 97] (1, 2) rfl (by simp)).below (below_alloc _ (.cells #[.int .u8 98] 5 (1, 2))) (Nat.le_refl _)
  have h2 := Bs.marked (w.alloc (.cells #[.int .u8 97] 5 (1, 2))) [98] #[.int .u8 98] (1, 2) rfl (by simp)
  rw [World.size_alloc] at h2
  have h := Bss.three h1 (Bs.nil _) h2
  rw [size2] at h
  have hP := oJoin _ h (by simp [tot])
  refine hP.mono ?_
  rintro e w' ⟨a, m, c, rfl, ho, hb⟩
  rw [World.size_alloc, size2] at ho hb
  exact ⟨a, m, c, rfl, Own.mono ho (by omega), (below3 _ _ _ _).trans (hb.mono (by omega))⟩
theorem wXor (w : World) : Calls Try.prog 21 #[.slice (some ⟨w.heap.size, 0, none⟩) 1 1, .slice (some ⟨w.heap.size + 1, 0, none⟩) 2 2] ((w.alloc (.cells #[.int .u8 3] 5)).alloc (.cells #[.int .u8 1, .int .u8 2] 5)) fun e w' =>
    ∃ g c, e = .returned (.slice (some ⟨g, 0, none⟩) 1 c) ∧ w'.cell? ⟨g, 0, none⟩ = some (.int .u8 2) ∧ Below w.heap.size w w' := by
  have h1 := (Bs.made w [3] #[.int .u8 3] rfl (by simp)).below (below_alloc _ (.cells #[.int .u8 1, .int .u8 2] 5)) (Nat.le_refl _)
  have h2 := Bs.made (w.alloc (.cells #[.int .u8 3] 5)) [1, 2] #[.int .u8 1, .int .u8 2] rfl (by simp)
  rw [World.size_alloc] at h2
  have hP := oXor _ h1 h2 (by simp) (by simp)
  rw [show xorL [3] [1, 2] = [2] from by decide] at hP
  refine hP.mono ?_
  rintro e w' ⟨a, m, c, rfl, ho, hb⟩
  have hbs := ho.toBs
  rw [size2] at ho hb
  obtain ⟨_, _, _, e, hs⟩ := ho.shape
  simp only [Value.slice.injEq] at e
  obtain ⟨rfl, rfl, rfl⟩ := e
  have hl := hbs.len
  simp at hl
  subst hl
  obtain ⟨b, o, rfl, _, hc⟩ := hbs.at (by omega)
  rcases hs with hs | ⟨g, hs⟩
  · simp at hs
  · simp at hs
    obtain ⟨rfl, rfl⟩ := hs
    exact ⟨b, c, rfl, hc 0 (by omega), (below2 _ _ _).trans (hb.mono (by omega))⟩

set_option maxHeartbeats 2000000 in
theorem lWorks (w : World) : Calls Try.prog 8 #[] w fun e w' => e = .returned (.bool true) ∧ Below w.heap.size w w' := by
  have kc := fun (w : World) (C : Array Value) (n c : Nat) => Lib.run_convert_bytes_const (P := Try.prog) w 23 5 C n c Try.underlying23 Try.underlying5
  have kc2 := conv2
  go_enter Try.func8, Try.ntmps8
  go_wp2_with fail
  refine (oRead _ (Bs.made w [0, 2, 7, 8, 9] _ rfl (by simp)) (by simp)).mono ?_
  rintro e w1 ⟨r, rfl, hr, hrd, hb⟩
  have b1 : Below w.heap.size w w1 := (below_alloc _ _).trans (hb.mono (by simp))
  have hr : w.heap.size ≤ r := Nat.le_trans (by simp) hr
  clear hb
  have lt1 := hrd.lt
  go_wp2_with fail
  refine (wText w1 r hrd).mono ?_
  rintro e w2 ⟨a2, m2, c2, rfl, ho2, hr2, hg2⟩
  have b2 := below_of_but b1 hg2 hr b1.size
  clear hrd b1
  go_wp2_with fail
  refine (wNum1 w2 r hr2).mono ?_
  rintro e w3 ⟨rfl, hr3, hg3⟩
  have b3 := below_of_but b2 hg3 hr b2.size
  have ho3 := ho2.but hg3 lt1
  clear hr2 b2 ho2 hg2 hg3
  go_wp2_with fail
  refine (wNum2 w3 r hr3).mono ?_
  rintro e w4 ⟨rfl, hr4, hg4⟩
  have b4 := below_of_but b3 hg4 hr b3.size
  have ho4 := ho3.but hg4 lt1
  clear hr3 b3 ho3 hg4
  have hstr := ho4.str
  go_wp2_with fail
  refine (oCode w4 r hr4).mono ?_
  rintro e w5 ⟨rfl, rfl⟩
  clear hr4 ho4 hstr
  go_wp2_with fail
  refine (wPut w5).mono ?_
  rintro e w6 ⟨a6, m6, c6, rfl, ho6, hb6⟩
  have b6 := b4.trans (hb6.mono b4.size)
  clear b4 hb6
  go_wp2_with fail
  refine (wGet w6 ho6.toBs).mono ?_
  rintro e w7 ⟨rfl, rfl⟩
  clear ho6
  go_wp2_with fail
  refine (wPack w6).mono ?_
  rintro e w8 ⟨a8, m8, c8, rfl, ho8, hb8⟩
  have b8 := b6.trans (hb8.mono b6.size)
  clear b6 hb8
  have hstr := ho8.str
  clear ho8
  go_wp2_with fail
  refine (wHex w8).mono ?_
  rintro e w9 ⟨rfl, hb9⟩
  have b9 := b8.trans (hb9.mono b8.size)
  clear b8 hb9 hstr
  go_wp2_with fail
  refine (wSame w9).mono ?_
  rintro e w10 ⟨rfl, hb10⟩
  have b10 := b9.trans (hb10.mono b9.size)
  clear b9 hb10
  go_wp2_with fail
  refine (wJoin w10).mono ?_
  rintro e w11 ⟨a11, m11, c11, rfl, ho11, hb11⟩
  have b11 := b10.trans (hb11.mono b10.size)
  clear b10 hb11
  have hstr := ho11.str
  clear ho11
  go_wp2_with fail
  refine (wXor w11).mono ?_
  rintro e w12 ⟨g, cg, rfl, hcell, hb12⟩
  have b12 := b11.trans (hb12.mono b11.size)
  clear b11 hb12 hstr
  go_wp2_with fail
  go_ret
  exact ⟨rfl, b12⟩
end Go.Proofs.Ytabokdffhomhiaa
