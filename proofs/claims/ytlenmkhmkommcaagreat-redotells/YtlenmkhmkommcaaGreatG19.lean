/-
  7 texts in one. No statement of the seat is proved here.
-/
import Derived.Test.YtlenmkhmkommcaaGreatG18

/-
  The builtin copy of bytes into the middle of a block that is known whole; the contract of layer 11's program's Noise: bytes of a number, in memory of the call's own. Conditions: the number fits 64 bits; at most 3000 bytes.
-/
namespace Go.Proofs.YtlenmkhmkommcaaGreat
open Go.RowKit

/-- A row of the call's own that has no room left is a block. -/
theorem Own.blkF {w : World} {base g m : Nat} {l : List UInt8} (h : Own w base (.slice (some ⟨g, 0, none⟩) m m) l) (hl : l.length = m) : Blk w g (cs l) 5 := by
  obtain ⟨h1, h2⟩ := h
  rcases h2 with ⟨h2, _⟩ | ⟨g', cap, cur, hv, hg, hh, hn, hm, hc, ht⟩
  · simp at h2
  · simp only [Value.slice.injEq, Option.some.injEq, Addr.mk.injEq] at hv
    obtain ⟨⟨rfl, _, _⟩, e1, rfl⟩ := hv
    unfold Blk
    rw [hh]
    have e : cur = (cs l).toArray := by
      rw [← ht, List.take_of_length_le (by rw [Array.length_toList]; omega)]
    rw [e]
theorem Own.ofBlk {w : World} {base g m : Nat} {l : List UInt8} (h : Blk w g (cs l) 5) (hb : base ≤ g) (hl : l.length = m) (hm : m ≤ 1000000) : Own w base (.slice (some ⟨g, 0, none⟩) m m) l := by
  subst hl
  refine ⟨by rw [cs_length, Nat.mul_one], Or.inr ⟨g, l.length, (cs l).toArray, rfl, hb, h, Nat.le_refl _, by unfold maxLen; omega, by simp [cs_length], ?_⟩⟩
  rw [List.take_of_length_le (by simp [cs_length])]

/-- 'copy(x[i:], b)' into a block that is known whole: as many as there are in both, and how many. -/
theorem wpList_cpo {ops : Array Oper} {rest : List Oper} {o : Oper} {a : Act} {Q : Exit → Act → World → Prop} (w : World) (hgd : o.guard = none) (d s : Operand)
    (ho : o.op = .call { callee := .builtin .copy, args := #[d, s], argTypes := #[26, 26] }) (g off dl dc : Nat) (hd : a.eval d = .slice (some ⟨g, off, none⟩) dl dc)
    (sp : Option Addr) (m c : Nat) (hs : a.eval s = .slice sp m c) (l : List UInt8) (hb : Bs w sp m c l) (vs : List Value) (t : TypeId) (blk : Blk w g vs t) (hfit : off + dl ≤ vs.length) (k : Nat) (hk : k = min m dl)
    (h : ∀ w', Blk w' g (vs.take off ++ cs (l.take k) ++ vs.drop (off + k)) t → w.grownBy w' (some g) → wpList Tryz.prog ops Q rest (a.put o.dst (.int .i64 (k : Int))) w') : wpList Tryz.prog ops Q (o :: rest) a w := by
  have hl := hb.len
  obtain ⟨i0, hi, hz0, hz1, hz2⟩ := info_parts info5
  have hsz : (Tryz.prog.info? 5).map (·.size) = some 1 := by rw [hi]; simp [hz1]
  by_cases h0 : k = 0
  · subst h0
    refine wpList_copy_nothing hgd d s 26 26 ho 5 Tryz.underlying26 hsz _ sp dl dc m c hd hs hk.symm ?_
    exact h w (by simpa [cs] using blk) (World.grownBy.refl _ _)
  · obtain ⟨b, o', rfl, _, _⟩ := hb.at (by omega)
    have hcl : (cs (l.take k)).length = k := by rw [cs_length, List.length_take, hl]; omega
    refine wpList_copy_own hgd d s 26 26 ho 5 Tryz.underlying26 hsz g off dl dc ⟨b, o', none⟩ m c hd hs vs.toArray t blk (cs (l.take k)) (by rw [hcl]; exact hk) (fun j v hj => hb.news j v (cs_sub' hj)) (by rw [hcl]; simp; omega) cs_one ?_
    rw [hcl]
    refine h _ ?_ ⟨rfl, rfl, rfl, by simp [World.setRow], fun j _ hj => setRow_other w g j _ (by simpa using hj)⟩
    unfold Blk
    rw [setRow_heap w g _ _ t (0, 0) blk, List.append_assoc]

theorem noiseL_small (n : Nat) {j : Nat} (h : j ≤ 8) : noiseL n j = (putL n 8).take j := by
  unfold noiseL
  rw [List.take_append_of_le_length (by rw [putL_length]; exact h)]
theorem noiseL_step (n : Nat) {j : Nat} (h : 8 ≤ j) : noiseL n (j + 1) = noiseL n j ++ [lcgB n (j - 8)] := by
  unfold noiseL
  rw [show j + 1 - 8 = (j - 8) + 1 from by omega, lcgL_succ, ← List.append_assoc]
  rw [List.take_of_length_le (by simp [putL_length, lcgL_length]; omega), List.take_of_length_le (by simp [putL_length, lcgL_length]; omega)]
theorem noise_set (n : Nat) {j m : Nat} (h : 8 ≤ j) (hm : j < m) : (noiseL n j ++ List.replicate (m - j) 0).set j (lcgB n (j - 8)) = noiseL n (j + 1) ++ List.replicate (m - (j + 1)) 0 := by
  rw [noiseL_step n h, List.set_append_right _ _ (by rw [noiseL_length]; exact Nat.le_refl _), noiseL_length, Nat.sub_self, show m - j = (m - (j + 1)) + 1 from by omega, List.replicate_succ, List.set_cons_zero, List.append_assoc]
  rfl
theorem noise_start (n m : Nat) : (cs (List.replicate m 0)).take 0 ++ cs ((putL n 8).take (min 8 m)) ++ (cs (List.replicate m 0)).drop (0 + min 8 m) = cs (noiseL n (min 8 m) ++ List.replicate (m - min 8 m) 0) := by
  rw [noiseL_small n (Nat.min_le_left _ _), cs_append, List.take_zero, List.nil_append, Nat.zero_add]
  congr 1
  simp [cs, List.drop_replicate]
theorem lcg_int (x : Nat) : IntKind.u64.wrap (IntKind.u64.wrap ((x : Int) * 6364136223846793005) + 1442695040888963407) = (lcg x : Nat) := by
  rw [IntKind.wrap_u64, IntKind.wrap_u64]
  unfold lcg
  omega
theorem lcg_byte {x : Nat} (h : x < 18446744073709551616) : ((UInt8.ofNat (x / 72057594037927936)).toNat : Int) = (x : Int) / 72057594037927936 := by
  rw [UInt8.toNat_ofNat']
  omega

set_option maxHeartbeats 1000000 in
theorem oNoise (n s : Int) (w : World) (hs : s ≤ 3000) (hn0 : 0 ≤ n) (hn : n ≤ 18446744073709551615) (hlo : -9223372036854775808 ≤ s) :
    Calls Tryz.prog 109 #[.int .u64 n, .int .i64 s] w (Gives w (noiseL n.toNat s.toNat)) := by
  by_cases h1 : s < 1
  · have e : s.toNat = 0 := by omega
    rw [e, show noiseL n.toNat 0 = [] from rfl]
    clear e
    go_enter Tryz.func109, Tryz.ntmps109
    go_wp2_with fail
    go_ret
    exact Gives.mk (Own.nil _ _) (Below.refl _ _)
  · obtain ⟨m, rfl⟩ : ∃ m : Nat, s = m := ⟨s.toNat, by omega⟩
    obtain ⟨n, rfl⟩ : ∃ q : Nat, n = q := ⟨n.toNat, by omega⟩
    rw [Int.toNat_natCast, Int.toNat_natCast]
    have h2 : ¬ (2147483647 : Int) < m := by omega
    go_enter Tryz.func109, Tryz.ntmps109
    go_wp2_with (at_make; refine wpList_mkn _ rfl _ _ rfl w.heap.size m _ rfl rfl rfl (by omega) (Nat.le_refl _) ?_; intro g w1 hg hgl hown hbel)
    have hB : Blk w1 g (cs (List.replicate m 0)) 5 := hown.blkF (by simp)
    refine (oPut (n : Int) 8 w1 (by omega) (by omega) (by omega) (by omega)).mono ?_
    rintro e w2 ⟨a2, m2, c2, rfl, o2, hb2⟩
    have hB2 := hB.below hb2 hB.lt
    have hp := o2.toBs
    have hm2 : m2 = 8 := by have := hp.len; rw [Int.toNat_natCast, putL_length] at this; omega
    subst hm2
    rw [Int.toNat_natCast] at hp
    have hk2 : Below w.heap.size w w2 := hbel.trans (hb2.mono hbel.size)
    clear o2 hb2 hB hown hbel
    go_wp2_with ((with_reducible refine at_cp ?_); (refine wpList_cpo _ rfl _ _ rfl g 0 m m rfl a2 8 c2 rfl _ hp _ _ hB2 (by simp [cs_length]) (min 8 m) rfl ?_); intro w3 hB3 hg3)
    have HL : Hid (min 8 m ≤ m ∧ (min 8 m = 8 ∨ min 8 m = m)) := by refine ⟨?_, ?_⟩ <;> omega
    rw [show Int.toNat 8 = 8 from rfl, noise_start] at hB3
    have hO3 : Own w3 w.heap.size (.slice (some ⟨g, 0, none⟩) m m) (noiseL n (min 8 m) ++ List.replicate (m - min 8 m) 0) := Own.ofBlk hB3 hg (by rw [List.length_append, noiseL_length, List.length_replicate]; omega) (by omega)
    have hk3 : Below w.heap.size w w3 := below_of_but hk2 hg3 hg hk2.size
    have hx0 : lcgI n (min 8 m - 8) = n := by rw [show min 8 m - 8 = 0 from by omega]; rfl
    generalize min 8 m = j0 at *
    clear hB2 hp hk2 hB3 hg3
    go_loopw [6, 7] (fun x i wr => ∃ j : Nat, j0 ≤ j ∧ j ≤ m ∧ i = .int .i64 (j : Int) ∧ x = .int .u64 ((lcgI n (j - 8) : Nat) : Int) ∧ Own wr w.heap.size (.slice (some ⟨g, 0, none⟩) m m) (noiseL n j ++ List.replicate (m - j) 0) ∧ Below w.heap.size w wr) (fun _ i _ => m - (intOf i).toNat)
    case atStart => exact ⟨j0, Nat.le_refl _, HL.out.1, rfl, by rw [hx0], hO3, hk3⟩
    case round =>
      obtain ⟨j, hj0, hj, rfl, rfl, ho, hb⟩ := hrel
      clear hO3 hk3 hx0
      by_cases hlt : j < m
      · have h8 : 8 ≤ j := by have := HL.out; omega
        have hlen : (noiseL n j ++ List.replicate (m - j) (0 : UInt8)).length = m := by rw [List.length_append, noiseL_length, List.length_replicate]; omega
        obtain ⟨v0, hcell⟩ := ho.cell hlen j hlt
        have hfr := ho.free hlen j
        have ho2 := ho.set hlen j (lcgB n (j - 8))
        have hb2 := hb.setCell (p := ⟨g, j, none⟩) hg (.int .u8 ((lcgB n (j - 8)).toNat : Int))
        rw [noise_set n h8 hlt] at ho2
        obtain ⟨x, hx⟩ : ∃ x, x = lcgI n (j - 8) := ⟨_, rfl⟩
        have hy : lcg x = lcgI n (j + 1 - 8) := by rw [hx, show j + 1 - 8 = (j - 8) + 1 from by omega]; rfl
        have hu : ((lcgB n (j - 8)).toNat : Int) = (lcg x : Int) / 72057594037927936 := by rw [← lcg_byte (lcg_lt x), hx]; rfl
        rw [hu] at ho2 hb2
        rw [← hx]
        have hw := lcg_int x
        have hxl : x < 18446744073709551616 := by rw [hx]; exact lcgI_lt (by omega) _
        have hyl : lcg x < 18446744073709551616 := lcg_lt x
        have HY : Hid (lcg x = lcgI n (j + 1 - 8)) := hy
        clear hx hu hy
        generalize lcg x = y at *
        have HO : Hid (Own (wr.setCell ⟨g, j, none⟩ (.int .u8 ((y : Int) / 72057594037927936))) w.heap.size (.slice (some ⟨g, 0, none⟩) m m) (noiseL n (j + 1) ++ List.replicate (m - (j + 1)) 0)) := ho2
        have HB : Hid (Below w.heap.size w (wr.setCell ⟨g, j, none⟩ (.int .u8 ((y : Int) / 72057594037927936)))) := hb2
        clear ho2 hb2 hlen ho hb
        go_wp2_with fail
        go_roundw
        case rel => exact ⟨j + 1, by omega, by omega, by go_num, by rw [HY.out], HO.out, HB.out⟩
        case measure => simp [intOf]; omega
      · have hjm : j = m := by omega
        subst hjm
        have HO : Hid (Own wr w.heap.size (.slice (some ⟨g, 0, none⟩) j j) (noiseL n j)) := by have := ho; rwa [Nat.sub_self, List.replicate_zero, List.append_nil] at this
        clear ho
        go_wp2_with fail
        go_ret
        exact Gives.mk HO.out hb

end Go.Proofs.YtlenmkhmkommcaaGreat

/-
  Contracts of layer 12's program: what stands in the book, what comes of sealing, what opens for real. Conditions: bytes of at most a million, texts of at most 600.
-/
namespace Go.Proofs.YtlenmkhmkommcaaGreat
open Go.RowKit
set_option linter.unusedVariables false

theorem resCT12 {fn : Func} {p t : Tmp} {ty : TypeId} (h : fn.results = #[.cell p ty, .tmp t]) (tmps : Array Value) (w : World) (g : Nat) (cs : Array Value) (hp : tmps.getD p undef = .pointer (some ⟨g, 0, none⟩)) (hl : (loadVar ty ⟨g, 0, none⟩).run Tryz.prog w = .ok (.agg cs) w) (x : Value) (hx : tmps.getD t undef = x) : (results fn tmps).run Tryz.prog w = .ok (.tuple #[.agg cs, x]) w := by
  have hp' : tmps[p]?.getD undef = .pointer (some ⟨g, 0, none⟩) := by simpa using hp
  have hx' : tmps[t]?.getD undef = x := by simpa using hx
  simp [results, h, hp', hx', asAddr, hl]

set_option maxRecDepth 100000 in
set_option maxHeartbeats 2000000 in
theorem oFindG (w : World) {r : Nat} {S : SeaS} {M : SeaM} {g : KeyO → Option Value} (hB : Blk w r (seC S M) 100) (hM : Mks kvO okKO w M.m2 g) {k n b s b1 t1 : List UInt8} {tk : Bool} (fk : fitW k) (fn : fitW n) (fb : fitW b) (fs : fitW s) (hX : (g (k, n, b, s)).getD zct = .agg #[sv b1, sv t1]) (hTk : (g (k, n, b, s)).isSome = tk) :
    Calls Tryz.prog 92 #[.pointer (some ⟨r, 2, none⟩), kvO (k, n, b, s)] w fun e w' => e = .returned (.tuple #[.agg #[sv b1, sv t1], .bool tk]) ∧ Below w.heap.size w w' := by
  have hl := hB.lt
  have HB : Hid (Blk w r (seC S M) 100) := hB
  have H2 : Hid (Mks kvO okKO w M.m2 g) := hM
  clear hB hM
  have OKO : Hid (okKO (k, n, b, s)) := ⟨fk, fn, fb, fs⟩
  unfold kvO
  go_enter Tryz.func92, Tryz.ntmps92
  go_wp2_with fail
  obtain ⟨x3, h3⟩ : ∃ x, x = w.heap.size := ⟨_, rfl⟩
  obtain ⟨x4, h4⟩ : ∃ x, x = w.heap.size + 1 := ⟨_, rfl⟩
  have B3 : Hid (Blk ((w.alloc (.cells #[sv k, sv n, sv b, sv s] 168)).alloc (.cells #[.string ⟨#[]⟩, .string ⟨#[]⟩] 161)) x3 [sv k, sv n, sv b, sv s] 168) := by
    rw [h3]
    exact (Blk.new w _ _).old _
  have B4 : Hid (Blk ((w.alloc (.cells #[sv k, sv n, sv b, sv s] 168)).alloc (.cells #[.string ⟨#[]⟩, .string ⟨#[]⟩] 161)) x4 [.string ⟨#[]⟩, .string ⟨#[]⟩] 161) := by
    have := Blk.new (w.alloc (.cells #[sv k, sv n, sv b, sv s] 168)) #[.string ⟨#[]⟩, .string ⟨#[]⟩] 161
    rw [show (w.alloc (.cells #[sv k, sv n, sv b, sv s] 168)).heap.size = x4 from by rw [h4]; simp] at this
    exact this
  have KP : Hid (Below w.heap.size w ((w.alloc (.cells #[sv k, sv n, sv b, sv s] 168)).alloc (.cells #[.string ⟨#[]⟩, .string ⟨#[]⟩] 161))) := (below_alloc w _).trans ((below_alloc _ _).mono (below_alloc w _).size)
  have HX4 : Hid (w.heap.size ≤ x4) := by
    show _ ≤ _
    omega
  rw [← h4, ← h3]
  clear h3 h4
  generalize (w.alloc (.cells #[sv k, sv n, sv b, sv s] 168)).alloc (.cells #[.string ⟨#[]⟩, .string ⟨#[]⟩] 161) = w3 at *
  have M2 : Hid (Mks kvO okKO w3 M.m2 g) := H2.out.same (KP.out.block _ H2.out.lt)
  have BR : Hid (Blk w3 r (seC S M) 100) := HB.out.below KP.out HB.out.lt
  refine regionG (S := Grows w3) (by kernel_rfl) (Below.refl _ w3).drew ?_
  have F4 : ∀ u, Grows w3 u → u.cell? ⟨r, 4, none⟩ = some (.map (some M.m2)) := fun u hu => (BR.out.grows hu).cell 4
  refine takeG 0 (some 9) (.pointer (some ⟨r, 2, none⟩)) rfl rfl (by kernel_rfl) (by kernel_rfl) (by kernel_rfl) (fun _ _ _ h => h) (ans_plain (by rfl) (fun w _ => rfl)) ?_
  simp only [Act.put, List.setIfInBounds_toArray, List.set_cons_zero, List.set_cons_succ]
  refine takeG 1 (some 10) (.pointer (some ⟨r, 2, none⟩)) rfl rfl (by kernel_rfl) (by kernel_rfl) (by kernel_rfl) (fun _ _ _ h => h) (ans_plain (by rfl) (fun w _ => by unfold execOp; go_simp)) ?_
  simp only [Act.put, List.setIfInBounds_toArray, List.set_cons_zero, List.set_cons_succ]
  refine takeG 2 (some 11) (.pointer (some ⟨r, 4, none⟩)) rfl rfl (by kernel_rfl) (by kernel_rfl) (by kernel_rfl) (fun _ _ _ h => h) (ans_plain (by rfl) (fun w _ => by unfold execOp; go_simp)) ?_
  simp only [Act.put, List.setIfInBounds_toArray, List.set_cons_zero, List.set_cons_succ]
  refine takeG 3 (some 12) (.map (some M.m2)) rfl rfl (by kernel_rfl) (by kernel_rfl) (by kernel_rfl) (fun _ _ _ h => h) (ans_plain (by rfl) (fun w h => by have hc := F4 w h; unfold execOp; go_simp)) ?_
  simp only [Act.put, List.setIfInBounds_toArray, List.set_cons_zero, List.set_cons_succ]
  refine takeG 4 (some 13) (.agg #[sv k, sv n, sv b, sv s]) rfl rfl (by kernel_rfl) (by kernel_rfl) (by kernel_rfl) (fun _ _ _ h => h) (ans_row 168 (.tmp 3) _ 4 rfl (by rfl) x3 0 rfl [sv k, sv n, sv b, sv s] (fun u hu => (B3.out.grows hu).whole) Tryz.underlying168 rfl rfl sizeOp) ?_
  simp only [Act.put, List.setIfInBounds_toArray, List.set_cons_zero, List.set_cons_succ]
  refine takeG 5 (some 14) (.tuple #[(g (k, n, b, s)).getD zct, .bool (g (k, n, b, s)).isSome]) rfl rfl (by kernel_rfl) (by kernel_rfl) (by kernel_rfl) (fun _ _ _ h => h) (ans_lookK (.tmp 12) (.tmp 13) 93 168 161 rfl (by rfl) keysO Tryz.underlying93 zct zeroCt M.m2 g rfl (k, n, b, s) OKO.out rfl (fun u hu => M2.out.same (Below.block hu _ M2.out.lt))) ?_
  simp only [Act.put, List.setIfInBounds_toArray, List.set_cons_zero, List.set_cons_succ]
  rw [hX, hTk]
  clear hX hTk F4
  refine takeG 6 (some 8) (.tuple #[.agg #[sv b1, sv t1], .bool tk]) rfl rfl (by kernel_rfl) (by kernel_rfl) (by kernel_rfl) (fun _ _ _ h => h) (ans_plain (by rfl) (fun w _ => rfl)) ?_
  simp only [Act.put, List.setIfInBounds_toArray, List.set_cons_zero, List.set_cons_succ]
  refine takeG 7 (some 15) (.agg #[sv b1, sv t1]) rfl rfl (by kernel_rfl) (by kernel_rfl) (by kernel_rfl) (fun _ _ _ h => h) (ans_plain (by rfl) (fun w _ => by unfold execOp; go_simp)) ?_
  simp only [Act.put, List.setIfInBounds_toArray, List.set_cons_zero, List.set_cons_succ]
  refine takeG 8 (some 16) (.bool tk) rfl rfl (by kernel_rfl) (by kernel_rfl) (by kernel_rfl) (fun _ _ _ h => h) (ans_plain (by rfl) (fun w _ => by unfold execOp; go_simp)) ?_
  simp only [Act.put, List.setIfInBounds_toArray, List.set_cons_zero, List.set_cons_succ]
  refine alloc1 (fun _ _ h h' => Grows.trans h h') 9 6 (makesCt rfl) (by kernel_rfl) fun x9 w4 hg4 hs4 B9 hx9 => ?_
  simp only [Act.put, List.setIfInBounds_toArray, List.set_cons_zero, List.set_cons_succ]
  refine oneG 10 (by kernel_rfl) fun w5 hg5 hs5 => ?_
  refine opStR 10 161 (.tmp 6) (.tmp 15) 2 rfl rfl rfl rfl x9 _ [sv b1, sv t1] 161 (B9.grows hg5) rfl rfl (two_one _ _) sizeCt rfl rfl fun w6 B9' k6 => ?_
  have hx93 : w3.heap.size ≤ x9 := hx9
  have hs6 : Grows w3 w6 := Below.trans hs5 (k6.below (B := w3.heap.size) (Below.size hs5) (fun j hj e => by omega))
  refine ⟨hs6, ?_⟩
  refine takeG 11 (some 7) (.bool tk) rfl rfl (by kernel_rfl) (by kernel_rfl) (by kernel_rfl) (fun _ _ _ h => h) (ans_plain (by rfl) (fun w _ => rfl)) ?_
  simp only [Act.put, List.setIfInBounds_toArray, List.set_cons_zero, List.set_cons_succ]
  refine doneG (by kernel_rfl) fun w7 hg7 hs7 => ?_
  have B97 : Blk w7 x9 [sv b1, sv t1] 161 := B9'.grows hg7
  have B47 := B4.out.grows hs7
  have c90 : w7.cell? ⟨x9, 0, none⟩ = some (sv b1) := B97.cell 0
  have c91 : w7.cell? ⟨x9, 1, none⟩ = some (sv t1) := B97.cell 1
  have l9 := B97.lt
  have c40 : w7.cell? ⟨x4, 0, none⟩ = some (.string ⟨#[]⟩) := B47.cell 0
  have c41 : w7.cell? ⟨x4, 1, none⟩ = some (.string ⟨#[]⟩) := B47.cell 1
  have l4 := B47.lt
  have f40 := B47.free 0
  have f41 := B47.free 1
  have BF : Hid (Blk ((w7.setCell ⟨x4, 0, none⟩ (sv b1)).setCell ⟨x4, 1, none⟩ (sv t1)) x4 [sv b1, sv t1] 161) := (B47.setC 0 (sv b1)).setC 1 (sv t1)
  have KF : Hid (Below w.heap.size w ((w7.setCell ⟨x4, 0, none⟩ (sv b1)).setCell ⟨x4, 1, none⟩ (sv t1))) := ((KP.out.trans (Below.mono hs7 KP.out.size)).setCell (p := ⟨x4, 0, none⟩) HX4.out _).setCell (p := ⟨x4, 1, none⟩) HX4.out _
  clear B9' B9 hg4 hs4 hg5 hs5 k6 hs6 hg7 hs7 M2 B3 B4 KP H2 HB hx9 hx93 B97 B47 BR
  unfold sv at c90 c91
  go_wp2_with fail
  refine bodyPost_ret (v := .tuple #[.agg #[sv b1, sv t1], .bool tk]) (resCT12 Tryz.results92 _ _ x4 _ rfl (run_loadVar_row _ x4 161 161 _ (0, 0) _ BF.out Tryz.underlying161 rfl sizeCt) _ rfl) rfl ?_
  exact ⟨rfl, KF.out⟩
/-- What stands in the book so: the same in whatever world has grown. -/
theorem oFindB (w : World) {U : Nat → Prop} {r : Nat} {S : SeaS} {M : SeaM} (h : Se U w r S M) {k n b s : List UInt8} (fk : fitW k) (fn : fitW n) (fb : fitW b) (fs : fitW s) :
    ∃ b1 t1, fitW t1 ∧ (S.ideal = true → ∀ t, S.known k n b s = some t → t1 = t) ∧ ∀ u, Grows w u → Calls Tryz.prog 92 #[.pointer (some ⟨r, 2, none⟩), kvO (k, n, b, s)] u fun e w' => e = .returned (.tuple #[.agg #[sv b1, sv t1], .bool (S.known k n b s).isSome]) ∧ Below u.heap.size u w' := by
  obtain ⟨g, hg2, hgT⟩ := h.texts
  have hgo := hgT (k, n, b, s)
  dsimp only at hgo
  cases hk : S.known k n b s with
  | none =>
    rw [hk] at hgo
    exact ⟨[], [], Nat.zero_le _, fun _ t ht => (by cases ht), fun u hu => oFindG u (h.blk.grows hu) (hg2.same (Below.block hu _ hg2.lt)) fk fn fb fs (by rw [hgo]; rfl) (by rw [hgo]; rfl)⟩
  | some t =>
    rw [hk] at hgo
    obtain ⟨t', h1, h2, h3⟩ := hgo
    exact ⟨b, t', h2, fun hi t0 ht0 => by rw [← Option.some.inj ht0]; exact h3 hi, fun u hu => oFindG u (h.blk.grows hu) (hg2.same (Below.block hu _ hg2.lt)) fk fn fb fs (by rw [h1]; rfl) (by rw [h1]; rfl)⟩

/-- What comes of sealing: bytes, and what the sealer is then. -/
def Mades (U : Nat → Prop) (r : Nat) (S' : SeaS) (M : SeaM) (l : List UInt8) (w : World) (e : Ending) (w' : World) : Prop := ∃ a m c, e = .returned (.tuple #[.slice a m c, .int .i64 0]) ∧ Own w' w.heap.size (.slice a m c) l ∧ Se U w' r S' M ∧ Kp U w w'

set_option maxHeartbeats 1000000 in
theorem oMade (w : World) {U : Nat → Prop} {r : Nat} {S : SeaS} {M : SeaM} (h : Se U w r S M) {k n b t : List UInt8} {ak an ab at' : Option Addr} {ck cn nb cb nt ct : Nat} (hk : Bs w ak 32 ck k) (hn : Bs w an 12 cn n) (hb : Bs w ab nb cb b) (ht : Bs w at' nt ct t) (zb : nb ≤ 600) (zt : nt ≤ 600) (hc : S.count + S.book.length + 2 ≤ 1000000) :
    Calls Tryz.prog 82 #[.pointer (some ⟨r, 0, none⟩), .slice ak 32 ck, .slice an 12 cn, .slice ab nb cb, .slice at' nt ct] w (Mades U r { S with count := S.next } M (S.made k n b t) w) := by
  have hi0 : w.cell? ⟨r, 0, none⟩ = some (.bool S.ideal) := h.blk.cell 0
  have hl := h.blk.lt
  have HS : Hid (Se U w r S M) := h
  rcases Bool.eq_false_or_eq_true S.ideal with hi | hi
  · have hz := ht.len
    have HM : Hid (S.made k n b t = noiseL (S.count + 1) (nt + 16) ∧ S.next = S.count + 1) := ⟨by unfold SeaS.made; rw [if_pos hi, hz], by unfold SeaS.next; rw [if_pos hi]⟩
    rw [hi] at hi0
    clear h hz hi hk hn hb ht
    go_enter Tryz.func82, Tryz.ntmps82
    go_wp2_with fail
    refine (oSNext w HS.out (by omega)).mono ?_
    rintro e w1 ⟨rfl, hS1, hk1⟩
    go_wp2_with fail
    refine (oNoise ((S.count + 1 : Nat) : Int) ((nt : Int) + 16) w1 (by omega) (by omega) (by omega) (by omega)).mono ?_
    rintro e w2 ⟨a2, m2, c2, rfl, o2, hb2⟩
    go_wp2_with fail
    go_ret2
    refine ⟨a2, m2, c2, rfl, ?_, ?_, ?_⟩
    · rw [HM.out.1]
      have e1 : (((S.count + 1 : Nat) : Int)).toNat = S.count + 1 := by omega
      have e2 : ((nt : Int) + 16).toNat = nt + 16 := by omega
      rw [e1, e2] at o2
      exact o2.mono hk1.size
    · rw [HM.out.2]
      exact hS1.grow hb2
    · exact (hk1.mono fun j _ e => by rw [e]; exact HS.out.inR).trans (Kp.of_below hb2)
  · obtain ⟨g, hg1, hg2, hg3⟩ := h.tab hi
    have ht0 : w.cell? ⟨r, 1, none⟩ = some (.pointer (some ⟨g, 0, none⟩)) := by
      have := h.blk.cell 1
      rw [show (seC S M)[1]? = some (.pointer M.tb) from rfl, hg1] at this
      exact this
    have HM : Hid (S.made k n b t = sealL (keyF k) n b t ∧ S.next = S.count) := ⟨by unfold SeaS.made; rw [if_neg (by rw [hi]; decide)], by unfold SeaS.next; rw [if_neg (by rw [hi]; decide)]⟩
    have HKL : Hid ((keyF k).length = 240) := keyF_length hk.len
    have CN : Hid (Calls Tryz.prog 111 #[.pointer (some ⟨g, 0, none⟩), .slice ak 32 ck] w fun e w' => ∃ r, e = .returned (.tuple #[.pointer (some ⟨r, 0, none⟩), .int .i64 0]) ∧ Gc w' r (keyF k) ∧ Below w.heap.size w w') := oGNew w g hg3.tab hk
    have HN : Hid (Bs w an 12 cn n) := hn
    have HB : Hid (Bs w ab nb cb b) := hb
    have HT : Hid (Bs w at' nt ct t) := ht
    rw [hi] at hi0
    clear h hi hk hn hb ht hg1 hg2 hg3
    go_enter Tryz.func82, Tryz.ntmps82
    go_wp2_with fail
    refine CN.out.mono ?_
    rintro e w1 ⟨r1, rfl, hG1, hb1⟩
    go_wp2_with fail
    refine (oGSeal w1 hG1 HKL.out (HN.out.below hb1 (Nat.le_refl _)) (HB.out.below hb1 (Nat.le_refl _)) (HT.out.below hb1 (Nat.le_refl _)) (by omega) (by omega)).mono ?_
    rintro e w2 ⟨a2, m2, c2, rfl, o2, hb2⟩
    go_wp2_with fail
    go_ret2
    refine ⟨a2, m2, c2, rfl, ?_, ?_, ?_⟩
    · rw [HM.out.1]
      exact o2.mono hb1.size
    · rw [HM.out.2]
      exact (HS.out.grow hb1).grow hb2
    · exact (Kp.of_below hb1).trans (Kp.of_below hb2)
/-- What opens for real. -/
def Openeds (l : Option (List UInt8)) (w : World) (e : Ending) (w' : World) : Prop := ∃ a m c, e = .returned (.tuple #[.slice a m c, .bool l.isSome]) ∧ Own w' w.heap.size (.slice a m c) (l.getD []) ∧ Below w.heap.size w w'

set_option maxHeartbeats 1000000 in
theorem oOpened (w : World) {U : Nat → Prop} {r : Nat} {S : SeaS} {M : SeaM} (h : Se U w r S M) (hi : S.ideal = false) {k n b s : List UInt8} {ak an ab as' : Option Addr} {ck cn nb cb ns cs' : Nat} (hk : Bs w ak 32 ck k) (hn : Bs w an 12 cn n) (hb : Bs w ab nb cb b) (hs : Bs w as' ns cs' s) (zb : nb ≤ 600) (zs : ns ≤ 600) :
    Calls Tryz.prog 93 #[.pointer (some ⟨r, 0, none⟩), .slice ak 32 ck, .slice an 12 cn, .slice ab nb cb, .slice as' ns cs'] w (Openeds (opensL k n b s) w) := by
  have hl := h.blk.lt
  obtain ⟨g, hg1, hg2, hg3⟩ := h.tab hi
  have ht0 : w.cell? ⟨r, 1, none⟩ = some (.pointer (some ⟨g, 0, none⟩)) := by
    have := h.blk.cell 1
    rw [show (seC S M)[1]? = some (.pointer M.tb) from rfl, hg1] at this
    exact this
  have HKL : Hid ((keyF k).length = 240) := keyF_length hk.len
  have CN : Hid (Calls Tryz.prog 111 #[.pointer (some ⟨g, 0, none⟩), .slice ak 32 ck] w fun e w' => ∃ r, e = .returned (.tuple #[.pointer (some ⟨r, 0, none⟩), .int .i64 0]) ∧ Gc w' r (keyF k) ∧ Below w.heap.size w w') := oGNew w g hg3.tab hk
  have HN : Hid (Bs w an 12 cn n) := hn
  have HB : Hid (Bs w ab nb cb b) := hb
  have HS : Hid (Bs w as' ns cs' s) := hs
  have hz := hs.len
  clear h hi hk hn hb hs hg1 hg2 hg3
  by_cases h16 : ns < 16
  · have HO : Hid (opensL k n b s = none) := by
      show _ = _
      unfold opensL
      rw [if_neg (by omega)]
    clear hz
    go_enter Tryz.func93, Tryz.ntmps93
    go_wp2_with fail
    refine CN.out.mono ?_
    rintro e w1 ⟨r1, rfl, hG1, hb1⟩
    go_wp2_with fail
    refine (oGOpenShort w1 hG1 h16).mono ?_
    rintro e w2 ⟨rfl, hb2⟩
    go_wp2_with fail
    go_ret2
    exact ⟨none, 0, 0, by rw [HO.out]; rfl, by rw [HO.out]; exact Own.nil _ _, hb1.trans (hb2.mono hb1.size)⟩
  · obtain ⟨ok, hok⟩ : ∃ ok, ok = decide (tagL (keyF k) n b (s.take (ns - 16)) = s.drop (ns - 16)) := ⟨_, rfl⟩
    obtain ⟨l, hll⟩ : ∃ l, l = strL (keyF k) n (s.take (ns - 16)) := ⟨_, rfl⟩
    have HO : Hid (opensL k n b s = if ok then some l else none) := by
      show _ = _
      unfold opensL
      rw [if_pos (by omega), hz, ← hll]
      by_cases hc : tagL (keyF k) n b (s.take (ns - 16)) = s.drop (ns - 16)
      · rw [if_pos hc, hok, decide_eq_true hc]
        rfl
      · rw [if_neg hc, hok, decide_eq_false hc]
        rfl
    have CO : Hid (∀ w1 r1, Gc w1 r1 (keyF k) → Below w.heap.size w w1 → Calls Tryz.prog 119 #[.pointer (some ⟨r1, 0, none⟩), .slice an 12 cn, .slice ab nb cb, .slice as' ns cs'] w1 (OpensC w1 ok l)) := fun w1 r1 hG hb1 => by
      rw [hok, hll]
      exact oGOpen w1 hG HKL.out (HN.out.below hb1 (Nat.le_refl _)) (HB.out.below hb1 (Nat.le_refl _)) (HS.out.below hb1 (Nat.le_refl _)) zb zs (by omega)
    clear hz hok hll
    go_enter Tryz.func93, Tryz.ntmps93
    go_wp2_with fail
    refine CN.out.mono ?_
    rintro e w1 ⟨r1, rfl, hG1, hb1⟩
    go_wp2_with fail
    refine (CO.out w1 r1 hG1 hb1).mono ?_
    cases ok with
    | true =>
      rintro e w2 ⟨a2, m2, c2, rfl, o2, hb2⟩
      go_wp2_with fail
      go_ret2
      exact ⟨a2, m2, c2, by rw [HO.out]; rfl, by rw [HO.out]; exact o2.mono hb1.size, hb1.trans (hb2.mono hb1.size)⟩
    | false =>
      rintro e w2 ⟨rfl, hb2⟩
      go_wp2_with fail
      go_ret2
      exact ⟨none, 0, 0, by rw [HO.out]; rfl, by rw [HO.out]; exact Own.nil _ _, hb1.trans (hb2.mono hb1.size)⟩

end Go.Proofs.YtlenmkhmkommcaaGreat

/-
  Contracts of layer 12's program's Seal and Open. Conditions: what stands beside and texts of at most 600 bytes; a book that is not too long.
-/
namespace Go.Proofs.YtlenmkhmkommcaaGreat
open Go.RowKit
set_option linter.unusedVariables false

theorem builtPl (k n : ByteArray) : Tryz.prog.built 159 [(0, .string k), (1, .string n)] = some #[.string k, .string n] := by kernel_rfl
theorem builtCt (k n : ByteArray) : Tryz.prog.built 161 [(0, .string k), (1, .string n)] = some #[.string k, .string n] := by kernel_rfl
theorem Own.kp {w w' : World} {base : Nat} {v : Value} {l : List UInt8} (h : Own w base v l) {F : Nat → Prop} (k : Kp F w w') (hF : ∀ j, F j → j < base) : Own w' base v l := by
  obtain ⟨h1, h2⟩ := h
  refine ⟨h1, ?_⟩
  rcases h2 with h2 | ⟨g, cap, cur, hv, hg, hh, r⟩
  · exact Or.inl h2
  · exact Or.inr ⟨g, cap, cur, hv, hg, by rw [k.block g (Array.getElem?_eq_some_iff.1 hh).1 fun e => by have := hF g e; omega]; exact hh, r⟩
theorem Own.ba {w : World} {base : Nat} {p : Option Addr} {m q : Nat} {l : List UInt8} (h : Own w base (.slice p m q) l) : BA (fun j => base ≤ j) w p m q l := (h.b5 (A := fun j => base ≤ j) fun j hj _ => hj).ba
theorem SeaS.tells_seal {S : SeaS} (h : S.Ok) (k n b t : List UInt8) : (S.reused || S.tells k n b t) = (S.reused || S.other k n b t) := (h.first_tells k n b t).symm
theorem SeaS.made_fit {S : SeaS} {k n b t : List UInt8} (hk : k.length = 32) (hn : n.length = 12) (ht : t.length ≤ 600) : fitW (S.made k n b t) := by
  unfold fitW SeaS.made
  split
  · rw [noiseL_length]
    omega
  · rw [sealL_length (keyF_length hk) hn]
    omega
theorem SeaS.Ok.made_new {S : SeaS} (h : S.Ok) (k n b t : List UInt8) (hi : S.ideal = true) : S.known k n b (S.made k n b t) = none := by
  have : S.made k n b t = noiseL (S.count + 1) (t.length + 16) := by unfold SeaS.made; rw [if_pos hi]
  rw [this]
  exact h.fresh hi k n b t.length

set_option maxRecDepth 100000 in
set_option maxHeartbeats 2000000 in
theorem oSSeal (w : World) {U : Nat → Prop} {r : Nat} {S : SeaS} {M : SeaM} (h : Se U w r S M) (hok : S.Ok) {k n b t : List UInt8} {ak an ab at' : Option Addr} {ck cn nb cb nt ct : Nat} (bk : BA (fun j => ¬ U j) w ak 32 ck k) (bn : BA (fun j => ¬ U j) w an 12 cn n) (bb : BA (fun j => ¬ U j) w ab nb cb b) (bt' : BA (fun j => ¬ U j) w at' nt ct t) (zb : nb ≤ 600) (zt : nt ≤ 600) (hc : S.count + S.book.length + 3 ≤ 1000000) :
    Calls Tryz.prog 44 #[.pointer (some ⟨r, 0, none⟩), .slice ak 32 ck, .slice an 12 cn, .slice ab nb cb, .slice at' nt ct] w (Mades U r (S.seal k n b t) M (S.made k n b t) w) := by
  have HS : Hid (Se U w r S M) := h
  have CF : Hid (Calls Tryz.prog 81 #[.slice ak 32 ck, .slice an 12 cn] w fun e w' => e = .returned (.bool true) ∧ w = w') := oFit w ak an 32 ck 12 cn (by omega) (by omega)
  have CM : Hid (Calls Tryz.prog 82 #[.pointer (some ⟨r, 0, none⟩), .slice ak 32 ck, .slice an 12 cn, .slice ab nb cb, .slice at' nt ct] w (Mades U r { S with count := S.next } M (S.made k n b t) w)) := oMade w h bk.1 bn.1 bb.1 bt'.1 zb zt (by omega)
  have HK : Hid (BA (fun j => ¬ U j) w ak 32 ck k) := bk
  have HN : Hid (BA (fun j => ¬ U j) w an 12 cn n) := bn
  have HB : Hid (BA (fun j => ¬ U j) w ab nb cb b) := bb
  have HT : Hid (BA (fun j => ¬ U j) w at' nt ct t) := bt'
  have FM : Hid (fitW (S.made k n b t) ∧ fitW k ∧ fitW n ∧ fitW b ∧ fitW t) := by
    have l1 := bk.1.len
    have l2 := bn.1.len
    have l3 := bb.1.len
    have l4 := bt'.1.len
    refine ⟨SeaS.made_fit l1 l2 (by omega), ?_, ?_, ?_, ?_⟩ <;> (unfold fitW; omega)
  have HF : Hid (S.ideal = true → S.known k n b (S.made k n b t) = none) := hok.made_new k n b t
  have HR : Hid ((S.reused || S.tells k n b t) = (S.reused || S.other k n b t)) := SeaS.tells_seal hok k n b t
  have hnx : S.next ≤ S.count + 1 := by unfold SeaS.next; split <;> omega
  clear h bk bn bb bt'
  go_enter Tryz.func44, Tryz.ntmps44
  go_wp2_with fail
  refine CF.out.mono ?_
  rintro e w1 ⟨rfl, rfl⟩
  go_wp2_with fail
  refine CM.out.mono ?_
  rintro e w1 ⟨as', ms, cs', rfl, os, hS1, kp1⟩
  have K1 : Hid (Bs w1 ak 32 ck k) := (HK.out.keep kp1.size fun j hj hu => kp1.block j hj hu).1
  have N1 : Hid (Bs w1 an 12 cn n) := (HN.out.keep kp1.size fun j hj hu => kp1.block j hj hu).1
  have B1 : Hid (Bs w1 ab nb cb b) := (HB.out.keep kp1.size fun j hj hu => kp1.block j hj hu).1
  have T1 : Hid (Bs w1 at' nt ct t) := (HT.out.keep kp1.size fun j hj hu => kp1.block j hj hu).1
  have O1 : Hid (Own w1 w.heap.size (.slice as' ms cs') (S.made k n b t)) := os
  have S1 : Hid (Se U w1 r { S with count := S.next } M) := hS1
  have KP1 : Hid (Kp U w w1) := kp1
  have lr := hS1.blk.lt
  clear os hS1 kp1 CM CF HK HN HB HT
  go_wp2_with fail
  refine regionE 14 (S := Grows w1) (by kernel_rfl) (Below.refl _ w1).drew ?_
  refine takeT 0 (some 30) (.pointer (some ⟨r, 0, none⟩)) rfl rfl (by kernel_rfl) (fun _ _ _ h => h) (ans_plain (by rfl) (fun w _ => rfl)) ?_
  simp only [Act.put, List.setIfInBounds_toArray, List.set_cons_zero, List.set_cons_succ]
  refine takeT 1 (some 31) (.pointer (some ⟨r, 0, none⟩)) rfl rfl (by kernel_rfl) (fun _ _ _ h => h) (ans_plain (by rfl) (fun w _ => by unfold execOp; go_simp)) ?_
  simp only [Act.put, List.setIfInBounds_toArray, List.set_cons_zero, List.set_cons_succ]
  refine takeT 2 (some 32) (.pointer (some ⟨r, 2, none⟩)) rfl rfl (by kernel_rfl) (fun _ _ _ h => h) (ans_plain (by rfl) (fun w _ => by unfold execOp; go_simp)) ?_
  simp only [Act.put, List.setIfInBounds_toArray, List.set_cons_zero, List.set_cons_succ]
  refine takeT 3 (some 33) (.slice ak 32 ck) rfl rfl (by kernel_rfl) (fun _ _ _ h => h) (ans_plain (by rfl) (fun w _ => rfl)) ?_
  simp only [Act.put, List.setIfInBounds_toArray, List.set_cons_zero, List.set_cons_succ]
  refine takeT 4 (some 34) (sv k) rfl rfl (by kernel_rfl) (fun _ _ _ h => h) (ans_str (.tmp 33) rfl (by rfl) ak 32 ck k rfl (fun u hu => K1.out.below hu (Nat.le_refl _))) ?_
  simp only [Act.put, List.setIfInBounds_toArray, List.set_cons_zero, List.set_cons_succ]
  refine takeT 5 (some 35) (.slice an 12 cn) rfl rfl (by kernel_rfl) (fun _ _ _ h => h) (ans_plain (by rfl) (fun w _ => rfl)) ?_
  simp only [Act.put, List.setIfInBounds_toArray, List.set_cons_zero, List.set_cons_succ]
  refine takeT 6 (some 36) (sv n) rfl rfl (by kernel_rfl) (fun _ _ _ h => h) (ans_str (.tmp 35) rfl (by rfl) an 12 cn n rfl (fun u hu => N1.out.below hu (Nat.le_refl _))) ?_
  simp only [Act.put, List.setIfInBounds_toArray, List.set_cons_zero, List.set_cons_succ]
  refine takeT 7 (some 37) (.agg #[sv k, sv n]) rfl rfl (by kernel_rfl) (fun _ _ _ h => h) (ans_bdK 159 [(0, .tmp 34), (1, .tmp 36)] [(0, sv k), (1, sv n)] _ rfl (by rfl) rfl (builtPl _ _)) ?_
  simp only [Act.put, List.setIfInBounds_toArray, List.set_cons_zero, List.set_cons_succ]
  refine takeT 8 (some 38) (.slice ab nb cb) rfl rfl (by kernel_rfl) (fun _ _ _ h => h) (ans_plain (by rfl) (fun w _ => rfl)) ?_
  simp only [Act.put, List.setIfInBounds_toArray, List.set_cons_zero, List.set_cons_succ]
  refine takeT 9 (some 39) (sv b) rfl rfl (by kernel_rfl) (fun _ _ _ h => h) (ans_str (.tmp 38) rfl (by rfl) ab nb cb b rfl (fun u hu => B1.out.below hu (Nat.le_refl _))) ?_
  simp only [Act.put, List.setIfInBounds_toArray, List.set_cons_zero, List.set_cons_succ]
  refine takeT 10 (some 40) (.slice at' nt ct) rfl rfl (by kernel_rfl) (fun _ _ _ h => h) (ans_plain (by rfl) (fun w _ => rfl)) ?_
  simp only [Act.put, List.setIfInBounds_toArray, List.set_cons_zero, List.set_cons_succ]
  refine takeT 11 (some 41) (sv t) rfl rfl (by kernel_rfl) (fun _ _ _ h => h) (ans_str (.tmp 40) rfl (by rfl) at' nt ct t rfl (fun u hu => T1.out.below hu (Nat.le_refl _))) ?_
  simp only [Act.put, List.setIfInBounds_toArray, List.set_cons_zero, List.set_cons_succ]
  refine takeT 12 (some 42) (.agg #[sv b, sv t]) rfl rfl (by kernel_rfl) (fun _ _ _ h => h) (ans_bdK 161 [(0, .tmp 39), (1, .tmp 41)] [(0, sv b), (1, sv t)] _ rfl (by rfl) rfl (builtCt _ _)) ?_
  simp only [Act.put, List.setIfInBounds_toArray, List.set_cons_zero, List.set_cons_succ]
  refine takeT 13 (some 43) (.slice as' ms cs') rfl rfl (by kernel_rfl) (fun _ _ _ h => h) (ans_plain (by rfl) (fun w _ => rfl)) ?_
  simp only [Act.put, List.setIfInBounds_toArray, List.set_cons_zero, List.set_cons_succ]
  refine lastC 14 (some 44) 83 #[.tmp 32, .tmp 37, .tmp 42, .tmp 43] #[95, 159, 161, 26] #[.pointer (some ⟨r, 2, none⟩), kvP (k, n), ctv b t, .slice as' ms cs'] rfl rfl rfl (by rfl) (by rfl) (by kernel_rfl) (by kernel_rfl) (by kernel_rfl) (by kernel_rfl) Tryz.call83 fun w2 hg2 hs2 => ?_
  refine (oAddB w2 (S1.out.grow hs2) (O1.out.toBs.below hs2 (Nat.le_refl _)) FM.out.2.1 FM.out.2.2.1 FM.out.2.2.2.1 FM.out.2.2.2.2 FM.out.1 HF.out (by dsimp only; omega)).mono ?_
  rintro e w3 ⟨rfl, hS3, kp3⟩
  refine ⟨_, rfl, fun w4 hg4 => ?_⟩
  simp only [Act.put, List.setIfInBounds_toArray, List.set_cons_zero, List.set_cons_succ]
  have hlt := HS.out.lt
  have KP4 : Hid (Kp U w w4) := ((KP1.out.trans (Kp.of_below hs2)).trans kp3).trans (Kp.of_below hg4)
  have O4 : Hid (Own w4 w.heap.size (.slice as' ms cs') (S.made k n b t)) := ((O1.out.below hs2 (Nat.le_refl _)).kp kp3 hlt).below hg4 (Nat.le_refl _)
  have S4 : Hid (Se U w4 r (({ S with count := S.next } : SeaS).add k n b t (S.made k n b t)) M) := hS3.grow hg4
  have HE : Hid (({ S with count := S.next } : SeaS).tells k n b t = S.tells k n b t) := rfl
  have hbk := S4.out.blk
  have c5 : w4.cell? ⟨r, 5, none⟩ = some (.bool S.reused) := hbk.cell 5
  have f5 := hbk.free 5
  have l4 := hbk.lt
  have B5' : Hid (Blk w4 r (seC (({ S with count := S.next } : SeaS).add k n b t (S.made k n b t)) M) 100) := hbk
  rw [HE.out]
  clear hS3 kp3 hg4 hs2 hg2 K1 N1 B1 T1 O1 S1 KP1 lr hbk HE hlt
  cases htl : S.tells k n b t with
  | true =>
    have hk5 : Kp (fun j => j = r) w4 (w4.setCell ⟨r, 5, none⟩ (.bool true)) := Kp.of_grown (but_set w4 r 5 _)
    have hes : S.seal k n b t = { ({ S with count := S.next } : SeaS).add k n b t (S.made k n b t) with reused := true } := by
      rw [S.seal_add, ← HR.out, htl, Bool.or_true]
    have S5 : Hid (Se U (w4.setCell ⟨r, 5, none⟩ (.bool true)) r (S.seal k n b t) M) := by
      rw [hes]
      refine S4.out.put hk5 ?_ rfl rfl rfl S4.out.bound
      exact B5'.out.setC 5 (.bool true)
    have O5 : Hid (Own (w4.setCell ⟨r, 5, none⟩ (.bool true)) w.heap.size (.slice as' ms cs') (S.made k n b t)) := O4.out.kp hk5 fun j hj => by rw [hj]; exact HS.out.lt r HS.out.inR
    have KP5 : Hid (Kp U w (w4.setCell ⟨r, 5, none⟩ (.bool true))) := KP4.out.trans (hk5.mono fun j _ e => by rw [e]; exact HS.out.inR)
    clear hk5 hes htl
    go_wp2_with fail
    go_ret2
    exact ⟨as', ms, cs', rfl, O5.out, S5.out, KP5.out⟩
  | false =>
    have hes : S.seal k n b t = ({ S with count := S.next } : SeaS).add k n b t (S.made k n b t) := by
      rw [S.seal_add, ← HR.out, htl, Bool.or_false]
      rfl
    have S5 : Hid (Se U w4 r (S.seal k n b t) M) := by
      show Se _ _ _ _ _
      rw [hes]
      exact S4.out
    clear hes htl
    go_wp2_with fail
    go_ret2
    exact ⟨as', ms, cs', rfl, O4.out, S5.out, KP4.out⟩

end Go.Proofs.YtlenmkhmkommcaaGreat

/-
  The contract of layer 12's program's Open. Conditions: what stands beside and what is opened of at most 600 bytes.
-/
namespace Go.Proofs.YtlenmkhmkommcaaGreat
open Go.RowKit
set_option linter.unusedVariables false

/-- What Open answers: the text, or that it is not right. -/
def OpensS (U : Nat → Prop) (r : Nat) (S' : SeaS) (M : SeaM) (l : Option (List UInt8)) (w : World) (e : Ending) (w' : World) : Prop := ∃ a m c, e = .returned (.tuple #[.slice a m c, .int .i64 (if l.isSome then 0 else 6)]) ∧ BA (fun j => w.heap.size ≤ j) w' a m c (l.getD []) ∧ Se U w' r S' M ∧ Kp U w w'
theorem SeaS.opened_ideal {S : SeaS} (hi : S.ideal = true) (k n b s : List UInt8) : S.opened k n b s = S := by
  obtain ⟨i, bk, kd, c, x, f⟩ := S
  dsimp only at hi
  subst hi
  simp [SeaS.opened]
theorem SeaS.opened_real {S : SeaS} (hi : S.ideal = false) (k n b s : List UInt8) : S.opened k n b s = { S with forged := S.forged || ((opensL k n b s).isSome && !(S.known k n b s).isSome) } := by
  unfold SeaS.opened
  rw [hi]
  cases S.known k n b s <;> simp
theorem BA.nil (A : Nat → Prop) (w : World) : BA A w none 0 0 [] := ⟨Bs.nil w, fun h => by omega⟩
theorem BA.kp {A F : Nat → Prop} {w w' : World} {p : Option Addr} {m q : Nat} {b : List UInt8} (h : BA A w p m q b) (k : Kp F w w') (hF : ∀ j, A j → ¬ F j) : BA A w' p m q b := h.keep k.size fun j hj ha => k.block j hj (hF j ha)
theorem BA.below' {A : Nat → Prop} {w w' : World} {p : Option Addr} {m q : Nat} {b : List UInt8} (h : BA A w p m q b) (hb : Below w.heap.size w w') : BA A w' p m q b := h.keep hb.size fun j hj _ => hb.block j hj

set_option maxRecDepth 100000 in
set_option maxHeartbeats 4000000 in
theorem oSOpen (w : World) {U : Nat → Prop} {r : Nat} {S : SeaS} {M : SeaM} (h : Se U w r S M) {k n b s : List UInt8} {ak an ab as' : Option Addr} {ck cn nb cb ns cs' : Nat} (hk : Bs w ak 32 ck k) (hn : Bs w an 12 cn n) (hb : Bs w ab nb cb b) (hs : Bs w as' ns cs' s) (zb : nb ≤ 600) (zs : ns ≤ 600) :
    Calls Tryz.prog 57 #[.pointer (some ⟨r, 0, none⟩), .slice ak 32 ck, .slice an 12 cn, .slice ab nb cb, .slice as' ns cs'] w (OpensS U r (S.opened k n b s) M (S.opens k n b s) w) := by
  have HS : Hid (Se U w r S M) := h
  have CF : Hid (Calls Tryz.prog 81 #[.slice ak 32 ck, .slice an 12 cn] w fun e w' => e = .returned (.bool true) ∧ w = w') := oFit w ak an 32 ck 12 cn (by omega) (by omega)
  have HK : Hid (Bs w ak 32 ck k) := hk
  have HN : Hid (Bs w an 12 cn n) := hn
  have HB : Hid (Bs w ab nb cb b) := hb
  have HC : Hid (Bs w as' ns cs' s) := hs
  have l1 := hk.len
  have l2 := hn.len
  have l3 := hb.len
  have l4 := hs.len
  obtain ⟨b1, t1, ft1, hid, hfind⟩ := oFindB w h (k := k) (n := n) (b := b) (s := s) (by unfold fitW; omega) (by unfold fitW; omega) (by unfold fitW; omega) (by unfold fitW; omega)
  obtain ⟨kn, hkn⟩ : ∃ kn, kn = (S.known k n b s).isSome := ⟨_, rfl⟩
  rw [← hkn] at hfind
  have CFI : Hid (∀ u, Grows w u → Calls Tryz.prog 92 #[.pointer (some ⟨r, 2, none⟩), kvO (k, n, b, s)] u fun e w' => e = .returned (.tuple #[.agg #[sv b1, sv t1], .bool kn]) ∧ Below u.heap.size u w') := hfind
  have HKN : Hid (kn = (S.known k n b s).isSome ∧ (S.ideal = true → ∀ t, S.known k n b s = some t → t1 = t)) := ⟨hkn, hid⟩
  have lr := h.blk.lt
  have ft2 : t1.length ≤ 1000000 := ft1
  clear h hk hn hb hs hfind hid hkn ft1 l1 l2 l3 l4
  go_enter Tryz.func57, Tryz.ntmps57
  go_wp2_with fail
  refine CF.out.mono ?_
  rintro e w1 ⟨rfl, rfl⟩
  clear CF
  go_wp2_with fail
  refine regionG (S := Grows w) (by kernel_rfl) (Below.refl _ w).drew ?_
  refine takeG 0 (some 21) (.pointer (some ⟨r, 0, none⟩)) rfl rfl (by kernel_rfl) (by kernel_rfl) (by kernel_rfl) (fun _ _ _ h => h) (ans_plain (by rfl) (fun w _ => rfl)) ?_
  simp only [Act.put, List.setIfInBounds_toArray, List.set_cons_zero, List.set_cons_succ]
  refine takeG 1 (some 22) (.pointer (some ⟨r, 0, none⟩)) rfl rfl (by kernel_rfl) (by kernel_rfl) (by kernel_rfl) (fun _ _ _ h => h) (ans_plain (by rfl) (fun w _ => by unfold execOp; go_simp)) ?_
  simp only [Act.put, List.setIfInBounds_toArray, List.set_cons_zero, List.set_cons_succ]
  refine takeG 2 (some 23) (.pointer (some ⟨r, 2, none⟩)) rfl rfl (by kernel_rfl) (by kernel_rfl) (by kernel_rfl) (fun _ _ _ h => h) (ans_plain (by rfl) (fun w _ => by unfold execOp; go_simp)) ?_
  simp only [Act.put, List.setIfInBounds_toArray, List.set_cons_zero, List.set_cons_succ]
  refine takeG 3 (some 24) (.slice ak 32 ck) rfl rfl (by kernel_rfl) (by kernel_rfl) (by kernel_rfl) (fun _ _ _ h => h) (ans_plain (by rfl) (fun w _ => rfl)) ?_
  simp only [Act.put, List.setIfInBounds_toArray, List.set_cons_zero, List.set_cons_succ]
  refine takeG 4 (some 25) (sv k) rfl rfl (by kernel_rfl) (by kernel_rfl) (by kernel_rfl) (fun _ _ _ h => h) (ans_str (.tmp 24) rfl (by rfl) ak 32 ck k rfl (fun u hu => HK.out.below hu (Nat.le_refl _))) ?_
  simp only [Act.put, List.setIfInBounds_toArray, List.set_cons_zero, List.set_cons_succ]
  refine takeG 5 (some 26) (.slice an 12 cn) rfl rfl (by kernel_rfl) (by kernel_rfl) (by kernel_rfl) (fun _ _ _ h => h) (ans_plain (by rfl) (fun w _ => rfl)) ?_
  simp only [Act.put, List.setIfInBounds_toArray, List.set_cons_zero, List.set_cons_succ]
  refine takeG 6 (some 27) (sv n) rfl rfl (by kernel_rfl) (by kernel_rfl) (by kernel_rfl) (fun _ _ _ h => h) (ans_str (.tmp 26) rfl (by rfl) an 12 cn n rfl (fun u hu => HN.out.below hu (Nat.le_refl _))) ?_
  simp only [Act.put, List.setIfInBounds_toArray, List.set_cons_zero, List.set_cons_succ]
  refine takeG 7 (some 28) (.agg #[sv k, sv n]) rfl rfl (by kernel_rfl) (by kernel_rfl) (by kernel_rfl) (fun _ _ _ h => h) (ans_bdK 159 [(0, .tmp 25), (1, .tmp 27)] [(0, sv k), (1, sv n)] _ rfl (by rfl) rfl (builtPl _ _)) ?_
  simp only [Act.put, List.setIfInBounds_toArray, List.set_cons_zero, List.set_cons_succ]
  refine takeG 8 (some 29) (.slice ab nb cb) rfl rfl (by kernel_rfl) (by kernel_rfl) (by kernel_rfl) (fun _ _ _ h => h) (ans_plain (by rfl) (fun w _ => rfl)) ?_
  simp only [Act.put, List.setIfInBounds_toArray, List.set_cons_zero, List.set_cons_succ]
  refine takeG 9 (some 30) (sv b) rfl rfl (by kernel_rfl) (by kernel_rfl) (by kernel_rfl) (fun _ _ _ h => h) (ans_str (.tmp 29) rfl (by rfl) ab nb cb b rfl (fun u hu => HB.out.below hu (Nat.le_refl _))) ?_
  simp only [Act.put, List.setIfInBounds_toArray, List.set_cons_zero, List.set_cons_succ]
  refine takeG 10 (some 31) (.slice as' ns cs') rfl rfl (by kernel_rfl) (by kernel_rfl) (by kernel_rfl) (fun _ _ _ h => h) (ans_plain (by rfl) (fun w _ => rfl)) ?_
  simp only [Act.put, List.setIfInBounds_toArray, List.set_cons_zero, List.set_cons_succ]
  refine takeG 11 (some 32) (sv s) rfl rfl (by kernel_rfl) (by kernel_rfl) (by kernel_rfl) (fun _ _ _ h => h) (ans_str (.tmp 31) rfl (by rfl) as' ns cs' s rfl (fun u hu => HC.out.below hu (Nat.le_refl _))) ?_
  simp only [Act.put, List.setIfInBounds_toArray, List.set_cons_zero, List.set_cons_succ]
  refine takeG 12 (some 33) (.agg #[sv k, sv n, sv b, sv s]) rfl rfl (by kernel_rfl) (by kernel_rfl) (by kernel_rfl) (fun _ _ _ h => h) (ans_bdK 168 [(0, .tmp 28), (1, .tmp 30), (2, .tmp 32)] [(0, .agg #[sv k, sv n]), (1, sv b), (2, sv s)] _ rfl (by rfl) rfl (builtOp _ _ _ _)) ?_
  simp only [Act.put, List.setIfInBounds_toArray, List.set_cons_zero, List.set_cons_succ]
  refine takeG 13 (some 34) (.tuple #[.agg #[sv b1, sv t1], .bool kn]) rfl rfl (by kernel_rfl) (by kernel_rfl) (by kernel_rfl) (fun _ _ _ h => h) (ans_fn 92 #[.tmp 23, .tmp 33] #[95, 168] #[.pointer (some ⟨r, 2, none⟩), kvO (k, n, b, s)] rfl (by rfl) (by rfl) Tryz.call92 fun u h => CFI.out u h) ?_
  simp only [Act.put, List.setIfInBounds_toArray, List.set_cons_zero, List.set_cons_succ]
  refine takeG 14 (some 20) (.tuple #[.agg #[sv b1, sv t1], .bool kn]) rfl rfl (by kernel_rfl) (by kernel_rfl) (by kernel_rfl) (fun _ _ _ h => h) (ans_plain (by rfl) (fun w _ => rfl)) ?_
  simp only [Act.put, List.setIfInBounds_toArray, List.set_cons_zero, List.set_cons_succ]
  refine takeG 15 (some 35) (.agg #[sv b1, sv t1]) rfl rfl (by kernel_rfl) (by kernel_rfl) (by kernel_rfl) (fun _ _ _ h => h) (ans_plain (by rfl) (fun w _ => by unfold execOp; go_simp)) ?_
  simp only [Act.put, List.setIfInBounds_toArray, List.set_cons_zero, List.set_cons_succ]
  refine takeG 16 (some 36) (.bool kn) rfl rfl (by kernel_rfl) (by kernel_rfl) (by kernel_rfl) (fun _ _ _ h => h) (ans_plain (by rfl) (fun w _ => by unfold execOp; go_simp)) ?_
  simp only [Act.put, List.setIfInBounds_toArray, List.set_cons_zero, List.set_cons_succ]
  refine alloc1 (fun _ _ h h' => Grows.trans h h') 17 12 (makesCt rfl) (by kernel_rfl) fun x9 w4 hg4 hs4 B9 hx9 => ?_
  simp only [Act.put, List.setIfInBounds_toArray, List.set_cons_zero, List.set_cons_succ]
  refine oneG 18 (by kernel_rfl) fun w5 hg5 hs5 => ?_
  refine opStR 18 161 (.tmp 12) (.tmp 35) 2 rfl rfl rfl rfl x9 _ [sv b1, sv t1] 161 (B9.grows hg5) rfl rfl (two_one _ _) sizeCt rfl rfl fun w6 B9' k6 => ?_
  have hx93 : w.heap.size ≤ x9 := hx9
  have hs6 : Grows w w6 := Below.trans hs5 (k6.below (B := w.heap.size) (Below.size hs5) (fun j hj e => by omega))
  refine ⟨hs6, ?_⟩
  refine takeG 19 (some 13) (.bool kn) rfl rfl (by kernel_rfl) (by kernel_rfl) (by kernel_rfl) (fun _ _ _ h => h) (ans_plain (by rfl) (fun w _ => rfl)) ?_
  simp only [Act.put, List.setIfInBounds_toArray, List.set_cons_zero, List.set_cons_succ]
  refine doneG (by kernel_rfl) fun w7 hg7 hs7 => ?_
  have B97 : Blk w7 x9 [sv b1, sv t1] 161 := B9'.grows hg7
  have c91 : w7.cell? ⟨x9, 1, none⟩ = some (sv t1) := B97.cell 1
  have l9 := B97.lt
  have KB7 : Hid (Below w.heap.size w w7) := hs7
  obtain ⟨cc, w8, hrun, hB8, hsz8, hb8⟩ := str_bytes w7 t1 ft2
  have R8 : Hid (Bs w8 (some ⟨w7.heap.size, 0, none⟩) t1.length cc t1 ∧ w7.heap.size < w8.heap.size) := ⟨hB8, hsz8⟩
  have KB8 : Hid (Below w.heap.size w w8) := KB7.out.trans (hb8.mono KB7.out.size)
  have S8 : Hid (Se U w8 r S M) := HS.out.grow KB8.out
  have hi0 : w8.cell? ⟨r, 0, none⟩ = some (.bool S.ideal) := S8.out.blk.cell 0
  have lr8 := S8.out.blk.lt
  have fg0 : w8.cell? ⟨r, 6, none⟩ = some (.bool S.forged) := S8.out.blk.cell 6
  have ff0 := S8.out.blk.free 6
  clear B9' B9 hg4 hs4 hg5 hs5 k6 hs6 hg7 hs7 hx9 hx93 B97 hB8 hsz8 hb8 CFI
  rcases Bool.eq_false_or_eq_true S.ideal with hi | hi
  · rw [hi] at hi0
    have HO : Hid (S.opens k n b s = S.known k n b s ∧ S.opened k n b s = S) := ⟨by unfold SeaS.opens; rw [if_pos hi], SeaS.opened_ideal hi k n b s⟩
    cases kn with
    | true =>
      have HV : Hid (S.known k n b s = some t1) := by
        show _ = _
        obtain ⟨t0, ht0⟩ := Option.isSome_iff_exists.1 HKN.out.1.symm
        rw [ht0, HKN.out.2 hi t0 ht0]
      clear hi
      go_wp2_with fail
      go_ret2
      refine ⟨_, _, _, by rw [HO.out.1, HV.out]; rfl, ?_, by rw [HO.out.2]; exact S8.out, Kp.of_below KB8.out⟩
      rw [HO.out.1, HV.out]
      exact ⟨R8.out.1, fun _ => ⟨_, rfl, KB7.out.size, R8.out.2⟩⟩
    | false =>
      have HV : Hid (S.known k n b s = none) := by
        show _ = _
        exact Option.not_isSome_iff_eq_none.1 (by rw [← HKN.out.1]; decide)
      clear hi
      go_wp2_with fail
      go_ret2
      refine ⟨_, _, _, by rw [HO.out.1, HV.out]; rfl, ?_, by rw [HO.out.2]; exact S8.out, Kp.of_below KB8.out⟩
      rw [HO.out.1, HV.out]
      exact BA.nil _ _
  · rw [hi] at hi0
    have CO : Hid (Calls Tryz.prog 93 #[.pointer (some ⟨r, 0, none⟩), .slice ak 32 ck, .slice an 12 cn, .slice ab nb cb, .slice as' ns cs'] w8 (Openeds (opensL k n b s) w8)) := oOpened w8 S8.out hi (HK.out.below KB8.out (Nat.le_refl _)) (HN.out.below KB8.out (Nat.le_refl _)) (HB.out.below KB8.out (Nat.le_refl _)) (HC.out.below KB8.out (Nat.le_refl _)) zb zs
    have HO : Hid (S.opens k n b s = opensL k n b s) := by show _ = _; unfold SeaS.opens; rw [if_neg (by rw [hi]; decide)]
    have HP : Hid (S.opened k n b s = { S with forged := S.forged || ((opensL k n b s).isSome && !kn) }) := by
      show _ = _
      rw [SeaS.opened_real hi, HKN.out.1]
    obtain ⟨O, hO⟩ : ∃ O, O = opensL k n b s := ⟨_, rfl⟩
    rw [← hO] at CO HO HP
    clear hO hi
    go_wp2_with fail
    refine CO.out.mono ?_
    rintro e w9 ⟨a9, m9, c9, rfl, o9, hb9⟩
    have KB9 : Hid (Below w.heap.size w w9) := KB8.out.trans (hb9.mono KB8.out.size)
    have S9 : Hid (Se U w9 r S M) := S8.out.grow hb9
    have O9 : Hid (Own w9 w.heap.size (.slice a9 m9 c9) (O.getD [])) := o9.mono KB8.out.size
    have fg : w9.cell? ⟨r, 6, none⟩ = some (.bool S.forged) := S9.out.blk.cell 6
    have ff := S9.out.blk.free 6
    have lr9 := S9.out.blk.lt
    clear CO o9 hb9 hi0 lr8 fg0 ff0
    cases O with
    | none =>
      have HE : Hid (S.opened k n b s = S) := by show _ = _; rw [HP.out]; simp
      clear fg ff
      go_wp2_with fail
      go_ret2
      refine ⟨_, _, _, by rw [HO.out]; rfl, ?_, by rw [HE.out]; exact S9.out, Kp.of_below KB9.out⟩
      rw [HO.out]
      exact BA.nil _ _
    | some l =>
      cases kn with
      | true =>
        have HE : Hid (S.opened k n b s = S) := by show _ = _; rw [HP.out]; simp
        clear fg ff
        go_wp2_with fail
        go_ret2
        refine ⟨_, _, _, by rw [HO.out]; rfl, ?_, by rw [HE.out]; exact S9.out, Kp.of_below KB9.out⟩
        rw [HO.out]
        exact O9.out.ba
      | false =>
        have HE : Hid (S.opened k n b s = { S with forged := true }) := by show _ = _; rw [HP.out]; simp
        have hk6 : Kp (fun j => j = r) w9 (w9.setCell ⟨r, 6, none⟩ (.bool true)) := Kp.of_grown (but_set w9 r 6 _)
        have S10 : Hid (Se U (w9.setCell ⟨r, 6, none⟩ (.bool true)) r { S with forged := true } M) := by
          refine S9.out.put hk6 ?_ rfl rfl rfl S9.out.bound
          exact S9.out.blk.setC 6 (.bool true)
        have O10 : Hid (Own (w9.setCell ⟨r, 6, none⟩ (.bool true)) w.heap.size (.slice a9 m9 c9) l) := O9.out.kp hk6 fun j hj => by rw [hj]; exact HS.out.lt r HS.out.inR
        have K10 : Hid (Kp U w (w9.setCell ⟨r, 6, none⟩ (.bool true))) := (Kp.of_below KB9.out).trans (hk6.mono fun j _ e => by rw [e]; exact HS.out.inR)
        clear hk6
        go_wp2_with fail
        go_ret2
        refine ⟨_, _, _, by rw [HO.out]; rfl, ?_, by rw [HE.out]; exact S10.out, K10.out⟩
        rw [HO.out]
        exact O10.out.ba

end Go.Proofs.YtlenmkhmkommcaaGreat

/-
  How sealers outlast what layer 12's statements do around them ('StaS', 'TwoS'); plain laws: what was sealed opens as it was. No condition.
-/
namespace Go.Proofs.YtlenmkhmkommcaaGreat
open Go.RowKit
set_option linter.unusedVariables false

/-- The sealer S in memory that is all newer than w0. -/
structure StaS (w0 w : World) (r : Nat) (U : Nat → Prop) (S : SeaS) (M : SeaM) : Prop where
  se : Se U w r S M
  ok : S.Ok
  base : ∀ j, U j → w0.heap.size ≤ j
  bel : Below w0.heap.size w0 w
theorem StaS.grow {w0 w w' : World} {r : Nat} {U : Nat → Prop} {S : SeaS} {M : SeaM} (h : StaS w0 w r U S M) (k : Below w.heap.size w w') : StaS w0 w' r U S M := ⟨h.se.grow k, h.ok, h.base, h.bel.trans (k.mono h.bel.size)⟩
theorem StaS.after {w0 w w' : World} {r : Nat} {U : Nat → Prop} {S S' : SeaS} {M : SeaM} (h : StaS w0 w r U S M) (hs : Se U w' r S' M) (ho : S'.Ok) (k : Kp U w w') : StaS w0 w' r U S' M :=
  ⟨hs, ho, h.base, below_kp h.bel k h.bel.size fun j hj hU => by have := h.base j hU; omega⟩
theorem StaS.kp {w0 w w' : World} {r : Nat} {U F : Nat → Prop} {S : SeaS} {M : SeaM} (h : StaS w0 w r U S M) (k : Kp F w w') (hF : ∀ j, U j → ¬ F j) (h0 : ∀ j, F j → w0.heap.size ≤ j) : StaS w0 w' r U S M :=
  ⟨h.se.kp k hF, h.ok, h.base, below_kp h.bel k h.bel.size fun j hj hU => by have := h0 j hU; omega⟩
theorem StaS.first {w0 w w' : World} {r : Nat} {U : Nat → Prop} {i : Bool} {M : SeaM} (hb : Below w0.heap.size w0 w) (hs : Se U w' r (SeaS.new i) M) (hU : ∀ j, U j → w.heap.size ≤ j) (hb' : Below w.heap.size w w') : StaS w0 w' r U (SeaS.new i) M :=
  ⟨hs, SeaS.Ok.new i, fun j hj => Nat.le_trans hb.size (hU j hj), hb.trans (hb'.mono hb.size)⟩
theorem BA.mono' {A A' : Nat → Prop} {w : World} {p : Option Addr} {m q : Nat} {b : List UInt8} (h : BA A w p m q b) (hA : ∀ j, j < w.heap.size → A j → A' j) : BA A' w p m q b :=
  ⟨h.1, fun hm => by
    obtain ⟨x, hp, ha, hlt⟩ := h.2 hm
    exact ⟨x, hp, hA _ hlt ha, hlt⟩⟩
/-- Bytes that a call made itself, behind the sealer. -/
theorem Own.no {U : Nat → Prop} {w : World} {base : Nat} {p : Option Addr} {m q : Nat} {l : List UInt8} (h : Own w base (.slice p m q) l) (hU : ∀ j, U j → j < base) : BA (fun j => ¬ U j) w p m q l := h.ba.mono' fun j _ hj hu => by have := hU j hu; omega
theorem BA.no {U : Nat → Prop} {w : World} {base : Nat} {p : Option Addr} {m q : Nat} {l : List UInt8} (h : BA (fun j => base ≤ j) w p m q l) (hU : ∀ j, U j → j < base) : BA (fun j => ¬ U j) w p m q l := h.mono' fun j _ hj hu => by have := hU j hu; omega
/-- Two sealers, apart. -/
structure TwoS (w0 w : World) (r1 : Nat) (U1 : Nat → Prop) (S1 : SeaS) (M1 : SeaM) (r2 : Nat) (U2 : Nat → Prop) (S2 : SeaS) (M2 : SeaM) : Prop where
  a : StaS w0 w r1 U1 S1 M1
  b : StaS w0 w r2 U2 S2 M2
  ap : ∀ j, U1 j → ¬ U2 j
theorem TwoS.grow {w0 w w' : World} {r1 r2 : Nat} {U1 U2 : Nat → Prop} {S1 S2 : SeaS} {M1 M2 : SeaM} (h : TwoS w0 w r1 U1 S1 M1 r2 U2 S2 M2) (k : Below w.heap.size w w') : TwoS w0 w' r1 U1 S1 M1 r2 U2 S2 M2 := ⟨h.a.grow k, h.b.grow k, h.ap⟩
theorem TwoS.left {w0 w w' : World} {r1 r2 : Nat} {U1 U2 : Nat → Prop} {S1 S1' S2 : SeaS} {M1 M2 : SeaM} (h : TwoS w0 w r1 U1 S1 M1 r2 U2 S2 M2) (hs : Se U1 w' r1 S1' M1) (ho : S1'.Ok) (k : Kp U1 w w') : TwoS w0 w' r1 U1 S1' M1 r2 U2 S2 M2 :=
  ⟨h.a.after hs ho k, h.b.kp k (fun j hj hj' => h.ap j hj' hj) h.a.base, h.ap⟩
theorem TwoS.right {w0 w w' : World} {r1 r2 : Nat} {U1 U2 : Nat → Prop} {S1 S2 S2' : SeaS} {M1 M2 : SeaM} (h : TwoS w0 w r1 U1 S1 M1 r2 U2 S2 M2) (hs : Se U2 w' r2 S2' M2) (ho : S2'.Ok) (k : Kp U2 w w') : TwoS w0 w' r1 U1 S1 M1 r2 U2 S2' M2 :=
  ⟨h.a.kp k h.ap h.b.base, h.b.after hs ho k, h.ap⟩
theorem TwoS.first {w0 w1 w2 : World} {r1 r2 : Nat} {U1 U2 : Nat → Prop} {S1 : SeaS} {i : Bool} {M1 M2 : SeaM} (h1 : StaS w0 w1 r1 U1 S1 M1) (hs : Se U2 w2 r2 (SeaS.new i) M2) (hU : ∀ j, U2 j → w1.heap.size ≤ j) (hb : Below w1.heap.size w1 w2) : TwoS w0 w2 r1 U1 S1 M1 r2 U2 (SeaS.new i) M2 :=
  ⟨h1.grow hb, StaS.first h1.bel hs hU hb, fun j h h' => by have := h1.se.lt j h; have := hU j h'; omega⟩

theorem SeaS.known_seal (S : SeaS) (k n b t k' n' b' s' : List UInt8) : (S.seal k n b t).known k' n' b' s' = match S.known k' n' b' s' with | some e => some e | none => if k = k' ∧ n = n' ∧ b = b' ∧ S.made k n b t = s' then some t else none := by
  rw [S.seal_add]
  show (({ S with count := S.next } : SeaS).add k n b t (S.made k n b t)).known k' n' b' s' = _
  rw [SeaS.known_add]
  rfl
/-- What was sealed is opened as it was. -/
theorem SeaS.opens_own {S : SeaS} (h : S.Ok) {k n : List UInt8} (hk : k.length = 32) (hn : n.length = 12) (b t : List UInt8) : (S.seal k n b t).opens k n b (S.made k n b t) = some t := by
  unfold SeaS.opens
  show (if S.ideal = true then _ else _) = _
  by_cases hi : S.ideal = true
  · rw [if_pos hi, S.known_seal, h.made_new k n b t hi]
    simp
  · rw [if_neg hi]
    have : S.made k n b t = sealL (keyF k) n b t := by unfold SeaS.made; rw [if_neg hi]
    rw [this]
    exact opens_seal hk hn
end Go.Proofs.YtlenmkhmkommcaaGreat

/-
  The contract of layer 12's program's Nonce. No condition.
-/
namespace Go.Proofs.YtlenmkhmkommcaaGreat
open Go.RowKit
set_option linter.unusedVariables false

/-- The nonce of two numbers. -/
def nonL (h l : Nat) : List UInt8 := putL h 8 ++ putL l 4
theorem nonL_length (h l : Nat) : (nonL h l).length = 12 := by simp [nonL, putL_length]
set_option maxHeartbeats 1000000 in
theorem oSNonce (w : World) (h l : Nat) (hh : h ≤ 18446744073709551615) (hl : l ≤ 4294967295) :
    Calls Tryz.prog 84 #[.int .u64 (h : Int), .int .u32 (l : Int)] w (Gives w (nonL h l)) := by
  have hl2 : (l : Int) ≤ 4294967295 := by omega
  go_enter Tryz.func84, Tryz.ntmps84
  go_wp2_with fail
  refine (oPut (h : Int) 8 w (by omega) (by omega) (by omega) (by omega)).mono ?_
  rintro e w1 ⟨a1, m1, c1, rfl, o1, hb1⟩
  go_wp2_with fail
  refine (oPut (l : Int) 4 w1 (by omega) (by omega) (by omega) (by omega)).mono ?_
  rintro e w2 ⟨a2, m2, c2, rfl, o2, hb2⟩
  have z1 : m1 ≤ 100 := by have := o1.toBs.len; rw [putL_length] at this; omega
  have z2 : m2 ≤ 100 := by have := o2.toBs.len; rw [putL_length] at this; omega
  go_wp2_with fail
  refine (oJoin2 w2 (o1.toBs.below hb2 (Nat.le_refl _)) o2.toBs (by omega)).mono ?_
  rintro e w3 ⟨a3, m3, c3, rfl, o3, hb3⟩
  go_wp2_with fail
  go_ret
  have q2 := hb1.trans (hb2.mono hb1.size)
  rw [Int.toNat_natCast, Int.toNat_natCast] at o3
  exact ⟨a3, m3, c3, rfl, o3.mono q2.size, q2.trans (hb3.mono q2.size)⟩


end Go.Proofs.YtlenmkhmkommcaaGreat

/-
  The contract of the reference's Join: parts, one behind the other. Condition: the parts have at most 100000 bytes in all.
-/
namespace Go.Proofs.YtlenmkhmkommcaaGreat
open Go.RowKit

end Go.Proofs.YtlenmkhmkommcaaGreat
