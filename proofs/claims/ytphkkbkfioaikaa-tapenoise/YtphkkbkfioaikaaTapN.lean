/-
  The builtin copy of bytes into the middle of a block that is known whole; the contract of layer 11's program's Noise: bytes of a number, in memory of the call's own. Conditions: the number fits 64 bits; at most 3000 bytes.
-/
import Derived.Test.YtphkkbkfioaikaaTapL
import Derived.Test.YtphkkbkfioaikaaPutO
import Derived.Test.YtphkkbkfioaikaaCpM
namespace Go.Proofs.Ytphkkbkfioaikaa
open Go.RowKit

/-- A row of the call's own that has no room left is a block. -/
theorem Own.blkF {w : World} {base g m : Nat} {l : List UInt8} (h : Own w base (.slice (some ⟨g, 0, none⟩) m m) l) (hl : l.length = m) : Blk w g (cs l) 5 := by
  obtain ⟨h1, h2⟩ := h
  rcases h2 with ⟨h2, _⟩ | ⟨g', cap, cur, hv, hg, hh, hn, hm, hc, ht⟩
  · simp at h2
  · simp only [Value.slice.injEq, Option.some.injEq, Addr.mk.injEq] at hv
    obtain ⟨⟨rfl, _, _⟩, e1, rfl⟩ := hv
    unfold Blk
    rw [hh]
    have e : cur = (cs l).toArray := by
      rw [← ht, List.take_of_length_le (by rw [Array.length_toList]; omega)]
    rw [e]
theorem Own.ofBlk {w : World} {base g m : Nat} {l : List UInt8} (h : Blk w g (cs l) 5) (hb : base ≤ g) (hl : l.length = m) (hm : m ≤ 1000000) : Own w base (.slice (some ⟨g, 0, none⟩) m m) l := by
  subst hl
  refine ⟨by rw [cs_length, Nat.mul_one], Or.inr ⟨g, l.length, (cs l).toArray, rfl, hb, h, Nat.le_refl _, by unfold maxLen; omega, by simp [cs_length], ?_⟩⟩
  rw [List.take_of_length_le (by simp [cs_length])]

/-- 'copy(x[i:], b)' into a block that is known whole: as many as there are in both, and how many. -/
theorem wpList_cpo {ops : Array Oper} {rest : List Oper} {o : Oper} {a : Act} {Q : Exit → Act → World → Prop} (w : World) (hgd : o.guard = none) (d s : Operand)
    (ho : o.op = .call { callee := .builtin .copy, args := #[d, s], argTypes := #[31, 31] }) (g off dl dc : Nat) (hd : a.eval d = .slice (some ⟨g, off, none⟩) dl dc)
    (sp : Option Addr) (m c : Nat) (hs : a.eval s = .slice sp m c) (l : List UInt8) (hb : Bs w sp m c l) (vs : List Value) (t : TypeId) (blk : Blk w g vs t) (hfit : off + dl ≤ vs.length) (k : Nat) (hk : k = min m dl)
    (h : ∀ w', Blk w' g (vs.take off ++ cs (l.take k) ++ vs.drop (off + k)) t → w.grownBy w' (some g) → wpList Try.prog ops Q rest (a.put o.dst (.int .i64 (k : Int))) w') : wpList Try.prog ops Q (o :: rest) a w := by
  have hl := hb.len
  obtain ⟨i0, hi, hz0, hz1, hz2⟩ := info_parts info5
  have hsz : (Try.prog.info? 5).map (·.size) = some 1 := by rw [hi]; simp [hz1]
  by_cases h0 : k = 0
  · subst h0
    refine wpList_copy_nothing hgd d s 31 31 ho 5 Try.underlying31 hsz _ sp dl dc m c hd hs hk.symm ?_
    exact h w (by simpa [cs] using blk) (World.grownBy.refl _ _)
  · obtain ⟨b, o', rfl, _, _⟩ := hb.at (by omega)
    have hcl : (cs (l.take k)).length = k := by rw [cs_length, List.length_take, hl]; omega
    refine wpList_copy_own hgd d s 31 31 ho 5 Try.underlying31 hsz g off dl dc ⟨b, o', none⟩ m c hd hs vs.toArray t blk (cs (l.take k)) (by rw [hcl]; exact hk) (fun j v hj => hb.news j v (cs_sub' hj)) (by rw [hcl]; simp; omega) cs_one ?_
    rw [hcl]
    refine h _ ?_ ⟨rfl, rfl, rfl, by simp [World.setRow], fun j _ hj => setRow_other w g j _ (by simpa using hj)⟩
    unfold Blk
    rw [setRow_heap w g _ _ t (0, 0) blk, List.append_assoc]

theorem noiseL_small (n : Nat) {j : Nat} (h : j ≤ 8) : noiseL n j = (putL n 8).take j := by
  unfold noiseL
  rw [List.take_append_of_le_length (by rw [putL_length]; exact h)]
theorem noiseL_step (n : Nat) {j : Nat} (h : 8 ≤ j) : noiseL n (j + 1) = noiseL n j ++ [lcgB n (j - 8)] := by
  unfold noiseL
  rw [show j + 1 - 8 = (j - 8) + 1 from by omega, lcgL_succ, ← List.append_assoc]
  rw [List.take_of_length_le (by simp [putL_length, lcgL_length]; omega), List.take_of_length_le (by simp [putL_length, lcgL_length]; omega)]
theorem noise_set (n : Nat) {j m : Nat} (h : 8 ≤ j) (hm : j < m) : (noiseL n j ++ List.replicate (m - j) 0).set j (lcgB n (j - 8)) = noiseL n (j + 1) ++ List.replicate (m - (j + 1)) 0 := by
  rw [noiseL_step n h, List.set_append_right _ _ (by rw [noiseL_length]; exact Nat.le_refl _), noiseL_length, Nat.sub_self, show m - j = (m - (j + 1)) + 1 from by omega, List.replicate_succ, List.set_cons_zero, List.append_assoc]
  rfl
theorem noise_start (n m : Nat) : (cs (List.replicate m 0)).take 0 ++ cs ((putL n 8).take (min 8 m)) ++ (cs (List.replicate m 0)).drop (0 + min 8 m) = cs (noiseL n (min 8 m) ++ List.replicate (m - min 8 m) 0) := by
  rw [noiseL_small n (Nat.min_le_left _ _), cs_append, List.take_zero, List.nil_append, Nat.zero_add]
  congr 1
  simp [cs, List.drop_replicate]
theorem lcg_int (x : Nat) : IntKind.u64.wrap (IntKind.u64.wrap ((x : Int) * 6364136223846793005) + 1442695040888963407) = (lcg x : Nat) := by
  rw [IntKind.wrap_u64, IntKind.wrap_u64]
  unfold lcg
  omega
theorem lcg_byte {x : Nat} (h : x < 18446744073709551616) : ((UInt8.ofNat (x / 72057594037927936)).toNat : Int) = (x : Int) / 72057594037927936 := by
  rw [UInt8.toNat_ofNat']
  omega

set_option maxHeartbeats 1000000 in
theorem oNoise (n s : Int) (w : World) (hs : s ≤ 3000) (hn0 : 0 ≤ n) (hn : n ≤ 18446744073709551615) (hlo : -9223372036854775808 ≤ s) :
    Calls Try.prog 17 #[.int .u64 n, .int .i64 s] w (Gives w (noiseL n.toNat s.toNat)) := by
  by_cases h1 : s < 1
  · have e : s.toNat = 0 := by omega
    rw [e, show noiseL n.toNat 0 = [] from rfl]
    clear e
    go_enter Try.func17, Try.ntmps17
    go_wp2_with fail
    go_ret
    exact Gives.mk (Own.nil _ _) (Below.refl _ _)
  · obtain ⟨m, rfl⟩ : ∃ m : Nat, s = m := ⟨s.toNat, by omega⟩
    obtain ⟨n, rfl⟩ : ∃ q : Nat, n = q := ⟨n.toNat, by omega⟩
    rw [Int.toNat_natCast, Int.toNat_natCast]
    have h2 : ¬ (2147483647 : Int) < m := by omega
    go_enter Try.func17, Try.ntmps17
    go_wp2_with (at_make; refine wpList_mkn _ rfl _ _ rfl w.heap.size m _ rfl rfl rfl (by omega) (Nat.le_refl _) ?_; intro g w1 hg hgl hown hbel)
    have hB : Blk w1 g (cs (List.replicate m 0)) 5 := hown.blkF (by simp)
    refine (oPut (n : Int) 8 w1 (by omega) (by omega) (by omega) (by omega)).mono ?_
    rintro e w2 ⟨a2, m2, c2, rfl, o2, hb2⟩
    have hB2 := hB.below hb2 hB.lt
    have hp := o2.toBs
    have hm2 : m2 = 8 := by have := hp.len; rw [Int.toNat_natCast, putL_length] at this; omega
    subst hm2
    rw [Int.toNat_natCast] at hp
    have hk2 : Below w.heap.size w w2 := hbel.trans (hb2.mono hbel.size)
    clear o2 hb2 hB hown hbel
    go_wp2_with ((with_reducible refine at_cp ?_); (refine wpList_cpo _ rfl _ _ rfl g 0 m m rfl a2 8 c2 rfl _ hp _ _ hB2 (by simp [cs_length]) (min 8 m) rfl ?_); intro w3 hB3 hg3)
    have HL : Hid (min 8 m ≤ m ∧ (min 8 m = 8 ∨ min 8 m = m)) := by refine ⟨?_, ?_⟩ <;> omega
    rw [show Int.toNat 8 = 8 from rfl, noise_start] at hB3
    have hO3 : Own w3 w.heap.size (.slice (some ⟨g, 0, none⟩) m m) (noiseL n (min 8 m) ++ List.replicate (m - min 8 m) 0) := Own.ofBlk hB3 hg (by rw [List.length_append, noiseL_length, List.length_replicate]; omega) (by omega)
    have hk3 : Below w.heap.size w w3 := below_of_but hk2 hg3 hg hk2.size
    have hx0 : lcgI n (min 8 m - 8) = n := by rw [show min 8 m - 8 = 0 from by omega]; rfl
    generalize min 8 m = j0 at *
    clear hB2 hp hk2 hB3 hg3
    go_loopw [6, 7] (fun x i wr => ∃ j : Nat, j0 ≤ j ∧ j ≤ m ∧ i = .int .i64 (j : Int) ∧ x = .int .u64 ((lcgI n (j - 8) : Nat) : Int) ∧ Own wr w.heap.size (.slice (some ⟨g, 0, none⟩) m m) (noiseL n j ++ List.replicate (m - j) 0) ∧ Below w.heap.size w wr) (fun _ i _ => m - (intOf i).toNat)
    case atStart => exact ⟨j0, Nat.le_refl _, HL.out.1, rfl, by rw [hx0], hO3, hk3⟩
    case round =>
      obtain ⟨j, hj0, hj, rfl, rfl, ho, hb⟩ := hrel
      clear hO3 hk3 hx0
      by_cases hlt : j < m
      · have h8 : 8 ≤ j := by have := HL.out; omega
        have hlen : (noiseL n j ++ List.replicate (m - j) (0 : UInt8)).length = m := by rw [List.length_append, noiseL_length, List.length_replicate]; omega
        obtain ⟨v0, hcell⟩ := ho.cell hlen j hlt
        have hfr := ho.free hlen j
        have ho2 := ho.set hlen j (lcgB n (j - 8))
        have hb2 := hb.setCell (p := ⟨g, j, none⟩) hg (.int .u8 ((lcgB n (j - 8)).toNat : Int))
        rw [noise_set n h8 hlt] at ho2
        obtain ⟨x, hx⟩ : ∃ x, x = lcgI n (j - 8) := ⟨_, rfl⟩
        have hy : lcg x = lcgI n (j + 1 - 8) := by rw [hx, show j + 1 - 8 = (j - 8) + 1 from by omega]; rfl
        have hu : ((lcgB n (j - 8)).toNat : Int) = (lcg x : Int) / 72057594037927936 := by rw [← lcg_byte (lcg_lt x), hx]; rfl
        rw [hu] at ho2 hb2
        rw [← hx]
        have hw := lcg_int x
        have hxl : x < 18446744073709551616 := by rw [hx]; exact lcgI_lt (by omega) _
        have hyl : lcg x < 18446744073709551616 := lcg_lt x
        have HY : Hid (lcg x = lcgI n (j + 1 - 8)) := hy
        clear hx hu hy
        generalize lcg x = y at *
        have HO : Hid (Own (wr.setCell ⟨g, j, none⟩ (.int .u8 ((y : Int) / 72057594037927936))) w.heap.size (.slice (some ⟨g, 0, none⟩) m m) (noiseL n (j + 1) ++ List.replicate (m - (j + 1)) 0)) := ho2
        have HB : Hid (Below w.heap.size w (wr.setCell ⟨g, j, none⟩ (.int .u8 ((y : Int) / 72057594037927936)))) := hb2
        clear ho2 hb2 hlen ho hb
        go_wp2_with fail
        go_roundw
        case rel => exact ⟨j + 1, by omega, by omega, by go_num, by rw [HY.out], HO.out, HB.out⟩
        case measure => simp [intOf]; omega
      · have hjm : j = m := by omega
        subst hjm
        have HO : Hid (Own wr w.heap.size (.slice (some ⟨g, 0, none⟩) j j) (noiseL n j)) := by have := ho; rwa [Nat.sub_self, List.replicate_zero, List.append_nil] at this
        clear ho
        go_wp2_with fail
        go_ret
        exact Gives.mk HO.out hb

end Go.Proofs.Ytphkkbkfioaikaa
