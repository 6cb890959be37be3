/-
  3 texts in one. No statement of the seat is proved here.
-/
import Derived.Test.YtfknplcnfpincaaGreatG23
import Derived.Deep.DeepCutAuto
/-
  Contracts of layer 13's reference's Open. Conditions: what a text is of at most 60 bytes; a book of at most 900 things.
-/
namespace Go.Proofs.YtfknplcnfpincaaGreat
open Go.RowKit
set_option linter.unusedVariables false

/-- What Open answers: some sealer, bytes, a code. -/
def OpR (code : Int) (l : List UInt8) (w : World) (e : Ending) (w' : World) : Prop := ∃ S' d' a m c, e = .returned (.tuple #[rsV S' d', .slice a m c, .int .i64 code]) ∧ Bs w' a m c l ∧ Below w.heap.size w w'
def opCode (z : Bool) (O : Option (List UInt8)) : Int := if z then (if O.isSome then 0 else 6) else 6
def opText (z : Bool) (O : Option (List UInt8)) : List UInt8 := if z then O.getD [] else []
theorem zer_take {l : List UInt8} {k : Nat} (h : zer (l.take k) = true) (hk : k < l.length) (hz : l.getD k 0 = 0) : zer (l.take (k + 1)) = true := by
  rw [List.take_succ_eq_append_getElem hk]
  rw [List.getD_eq_getElem?_getD, List.getElem?_eq_getElem hk] at hz
  unfold zer at h ⊢
  rw [List.all_append, h]
  simpa using hz
theorem zer_not {l : List UInt8} {k : Nat} (hk : k < l.length) (hz : ¬ l.getD k 0 = 0) : zer l = false := by
  unfold zer
  rw [List.all_eq_false]
  refine ⟨l.getD k 0, ?_, by simpa using hz⟩
  rw [List.getD_eq_getElem?_getD, List.getElem?_eq_getElem hk]
  exact List.getElem_mem _

set_option maxRecDepth 100000 in
set_option maxHeartbeats 2000000 in
theorem rOpenR (w : World) {S : SeaS} {d : Du} {ak aw ab : Option Addr} {nk ck nw cw nb cb : Nat} (say i : Int) (s0 : -9223372036854775808 ≤ say) (s1 : say ≤ 9223372036854775807) (i0 : -9223372036854775808 ≤ i) (i1 : i ≤ 9223372036854775807) (hn : ¬ inR say i) :
    Calls Tryz.prog 12 #[rsV S d, .slice ak nk ck, .slice aw nw cw, .int .i64 say, .int .i64 i, .slice ab nb cb] w (OpR 2 [] w) := by
  unfold inR at hn
  have B6 : Hid (Blk ((w.alloc (.cells #[.bool S.ideal, .slice d.ba d.bn d.bc, .slice d.ca d.cn d.cc, .int .u64 (S.count : Int), .bool S.reused, .bool S.forged] 37)).alloc (.cells #[.bool false, .slice none 0 0, .slice none 0 0, .int .u64 0, .bool false, .bool false] 37)) w.heap.size (rsC S d) 37) := (Blk.new w #[.bool S.ideal, .slice d.ba d.bn d.bc, .slice d.ca d.cn d.cc, .int .u64 (S.count : Int), .bool S.reused, .bool S.forged] 37).old _
  have B12 : Hid (Blk ((w.alloc (.cells #[.bool S.ideal, .slice d.ba d.bn d.bc, .slice d.ca d.cn d.cc, .int .u64 (S.count : Int), .bool S.reused, .bool S.forged] 37)).alloc (.cells #[.bool false, .slice none 0 0, .slice none 0 0, .int .u64 0, .bool false, .bool false] 37)) (w.heap.size + 1) [.bool false, .slice none 0 0, .slice none 0 0, .int .u64 0, .bool false, .bool false] 37) := by
    have := Blk.new (w.alloc (.cells #[.bool S.ideal, .slice d.ba d.bn d.bc, .slice d.ca d.cn d.cc, .int .u64 (S.count : Int), .bool S.reused, .bool S.forged] 37)) #[.bool false, .slice none 0 0, .slice none 0 0, .int .u64 0, .bool false, .bool false] 37
    rwa [show (w.alloc (.cells #[.bool S.ideal, .slice d.ba d.bn d.bc, .slice d.ca d.cn d.cc, .int .u64 (S.count : Int), .bool S.reused, .bool S.forged] 37)).heap.size = w.heap.size + 1 from by simp] at this
  have Q1 : Hid (Below w.heap.size w ((w.alloc (.cells #[.bool S.ideal, .slice d.ba d.bn d.bc, .slice d.ca d.cn d.cc, .int .u64 (S.count : Int), .bool S.reused, .bool S.forged] 37)).alloc (.cells #[.bool false, .slice none 0 0, .slice none 0 0, .int .u64 0, .bool false, .bool false] 37))) := below2 w _ _
  have SZ : Hid (((w.alloc (.cells #[.bool S.ideal, .slice d.ba d.bn d.bc, .slice d.ca d.cn d.cc, .int .u64 (S.count : Int), .bool S.reused, .bool S.forged] 37)).alloc (.cells #[.bool false, .slice none 0 0, .slice none 0 0, .int .u64 0, .bool false, .bool false] 37)).heap.size = w.heap.size + 2) := size2 w _ _
  show Calls Tryz.prog _ #[.agg #[.bool S.ideal, .slice d.ba d.bn d.bc, .slice d.ca d.cn d.cc, .int .u64 (S.count : Int), .bool S.reused, .bool S.forged], _, _, _, _, _] w _
  go_enter Tryz.func12, Tryz.ntmps12
  go_upto_region 1 with fail
  obtain ⟨x12, h12⟩ : ∃ x, x = w.heap.size + 1 := ⟨_, rfl⟩
  obtain ⟨x6, h6⟩ : ∃ x, x = w.heap.size := ⟨_, rfl⟩
  rw [← h12] at B12
  rw [← h6] at B6
  rw [← h12, ← h6]
  have HX : Hid (x6 = w.heap.size ∧ x12 = w.heap.size + 1) := ⟨h6, h12⟩
  clear h6 h12
  generalize (w.alloc (.cells #[.bool S.ideal, .slice d.ba d.bn d.bc, .slice d.ca d.cn d.cc, .int .u64 (S.count : Int), .bool S.reused, .bool S.forged] 37)).alloc (.cells #[.bool false, .slice none 0 0, .slice none 0 0, .int .u64 0, .bool false, .bool false] 37) = w1 at *
  by_cases h1 : say < 0
  · clear hn
    go_wp2_with (first
      | ((with_reducible refine at_ld 37 ?_); (refine ld 37 (.tmp 6) 6 sizeRS _ Tryz.underlying37 rfl x6 0 (rsC S d) rfl B6.out.whole rfl ?_))
      | ((with_reducible refine at_st 37 ?_); (refine st' 37 (.tmp 12) (.tmp 33) 6 sizeRS x12 0 (rsC S d) rfl (rsC_one _ _) (B12.out.there 0 6 (by simp)) rfl rfl ?_); intro w8 hw8
         have Y8 : Hid (Blk w8 x12 (rsC S d) 37) := by rw [hw8]; exact B12.out.setsW _ rfl
         have K8 : Hid (Kp (fun j => j = x12) w1 w8) := by rw [hw8]; exact Kp.sets w1 x12 _ 0
         clear hw8))
    refine bodyPost_ret (v := .tuple #[.agg (rsC S d).toArray, .slice none 0 0, .int .i64 2]) (resCTT12 Tryz.results12 _ _ x12 _ rfl (run_loadVar_row _ x12 37 37 _ (0, 0) _ Y8.out Tryz.underlying37 rfl sizeRS) _ _ rfl rfl) rfl ?_
    exact ⟨S, d, none, 0, 0, rfl, Bs.nil _, Kp.new Q1.out K8.out fun i e => by have := HX.out; omega⟩
  by_cases h2 : (1048576 : Int) < say
  · clear hn
    go_wp2_with (first
      | ((with_reducible refine at_ld 37 ?_); (refine ld 37 (.tmp 6) 6 sizeRS _ Tryz.underlying37 rfl x6 0 (rsC S d) rfl B6.out.whole rfl ?_))
      | ((with_reducible refine at_st 37 ?_); (refine st' 37 (.tmp 12) (.tmp 33) 6 sizeRS x12 0 (rsC S d) rfl (rsC_one _ _) (B12.out.there 0 6 (by simp)) rfl rfl ?_); intro w8 hw8
         have Y8 : Hid (Blk w8 x12 (rsC S d) 37) := by rw [hw8]; exact B12.out.setsW _ rfl
         have K8 : Hid (Kp (fun j => j = x12) w1 w8) := by rw [hw8]; exact Kp.sets w1 x12 _ 0
         clear hw8))
    refine bodyPost_ret (v := .tuple #[.agg (rsC S d).toArray, .slice none 0 0, .int .i64 2]) (resCTT12 Tryz.results12 _ _ x12 _ rfl (run_loadVar_row _ x12 37 37 _ (0, 0) _ Y8.out Tryz.underlying37 rfl sizeRS) _ _ rfl rfl) rfl ?_
    exact ⟨S, d, none, 0, 0, rfl, Bs.nil _, Kp.new Q1.out K8.out fun i e => by have := HX.out; omega⟩
  by_cases h3 : i < 0
  · clear hn
    go_wp2_with (first
      | ((with_reducible refine at_ld 37 ?_); (refine ld 37 (.tmp 6) 6 sizeRS _ Tryz.underlying37 rfl x6 0 (rsC S d) rfl B6.out.whole rfl ?_))
      | ((with_reducible refine at_st 37 ?_); (refine st' 37 (.tmp 12) (.tmp 33) 6 sizeRS x12 0 (rsC S d) rfl (rsC_one _ _) (B12.out.there 0 6 (by simp)) rfl rfl ?_); intro w8 hw8
         have Y8 : Hid (Blk w8 x12 (rsC S d) 37) := by rw [hw8]; exact B12.out.setsW _ rfl
         have K8 : Hid (Kp (fun j => j = x12) w1 w8) := by rw [hw8]; exact Kp.sets w1 x12 _ 0
         clear hw8))
    refine bodyPost_ret (v := .tuple #[.agg (rsC S d).toArray, .slice none 0 0, .int .i64 2]) (resCTT12 Tryz.results12 _ _ x12 _ rfl (run_loadVar_row _ x12 37 37 _ (0, 0) _ Y8.out Tryz.underlying37 rfl sizeRS) _ _ rfl rfl) rfl ?_
    exact ⟨S, d, none, 0, 0, rfl, Bs.nil _, Kp.new Q1.out K8.out fun i e => by have := HX.out; omega⟩
  obtain ⟨n, rfl⟩ : ∃ n : Nat, say = n := ⟨say.toNat, by omega⟩
  rw [Int.toNat_natCast] at hn
  have h4 : (cnt n : Int) ≤ i := by omega
  clear hn
  go_wp2_with fail
  refine (rCount w1 n (by omega)).mono ?_
  rintro e w2 ⟨rfl, rfl⟩
  go_wp2_with (first
    | ((with_reducible refine at_ld 37 ?_); (refine ld 37 (.tmp 6) 6 sizeRS _ Tryz.underlying37 rfl x6 0 (rsC S d) rfl B6.out.whole rfl ?_))
    | ((with_reducible refine at_st 37 ?_); (refine st' 37 (.tmp 12) (.tmp 33) 6 sizeRS x12 0 (rsC S d) rfl (rsC_one _ _) (B12.out.there 0 6 (by simp)) rfl rfl ?_); intro w8 hw8
       have Y8 : Hid (Blk w8 x12 (rsC S d) 37) := by rw [hw8]; exact B12.out.setsW _ rfl
       have K8 : Hid (Kp (fun j => j = x12) w1 w8) := by rw [hw8]; exact Kp.sets w1 x12 _ 0
       clear hw8))
  refine bodyPost_ret (v := .tuple #[.agg (rsC S d).toArray, .slice none 0 0, .int .i64 2]) (resCTT12 Tryz.results12 _ _ x12 _ rfl (run_loadVar_row _ x12 37 37 _ (0, 0) _ Y8.out Tryz.underlying37 rfl sizeRS) _ _ rfl rfl) rfl ?_
  exact ⟨S, d, none, 0, 0, rfl, Bs.nil _, Kp.new Q1.out K8.out fun i e => by have := HX.out; omega⟩

set_option maxRecDepth 100000 in
set_option maxHeartbeats 2000000 in
theorem rOpenS (w : World) {S : SeaS} {d : Du} {ak aw ab : Option Addr} {nk ck nw cw nb cb : Nat} (n i : Nat) (hn : n ≤ 1048576) (hi : i < cnt n) (hb : nb ≤ 1000000) (h512 : ¬ nb = 512) :
    Calls Tryz.prog 12 #[rsV S d, .slice ak nk ck, .slice aw nw cw, .int .i64 (n : Int), .int .i64 (i : Int), .slice ab nb cb] w (OpR 17 [] w) := by
  have h1 : ¬ (n : Int) < 0 := by omega
  have h2 : ¬ (1048576 : Int) < (n : Int) := by omega
  have h3 : ¬ (i : Int) < 0 := by omega
  have h4 : ¬ (cnt n : Int) ≤ (i : Int) := by omega
  have h5 : ¬ (nb : Int) = 512 := by omega
  clear hi h512
  have B6 : Hid (Blk ((w.alloc (.cells #[.bool S.ideal, .slice d.ba d.bn d.bc, .slice d.ca d.cn d.cc, .int .u64 (S.count : Int), .bool S.reused, .bool S.forged] 37)).alloc (.cells #[.bool false, .slice none 0 0, .slice none 0 0, .int .u64 0, .bool false, .bool false] 37)) w.heap.size (rsC S d) 37) := (Blk.new w #[.bool S.ideal, .slice d.ba d.bn d.bc, .slice d.ca d.cn d.cc, .int .u64 (S.count : Int), .bool S.reused, .bool S.forged] 37).old _
  have B12 : Hid (Blk ((w.alloc (.cells #[.bool S.ideal, .slice d.ba d.bn d.bc, .slice d.ca d.cn d.cc, .int .u64 (S.count : Int), .bool S.reused, .bool S.forged] 37)).alloc (.cells #[.bool false, .slice none 0 0, .slice none 0 0, .int .u64 0, .bool false, .bool false] 37)) (w.heap.size + 1) [.bool false, .slice none 0 0, .slice none 0 0, .int .u64 0, .bool false, .bool false] 37) := by
    have := Blk.new (w.alloc (.cells #[.bool S.ideal, .slice d.ba d.bn d.bc, .slice d.ca d.cn d.cc, .int .u64 (S.count : Int), .bool S.reused, .bool S.forged] 37)) #[.bool false, .slice none 0 0, .slice none 0 0, .int .u64 0, .bool false, .bool false] 37
    rwa [show (w.alloc (.cells #[.bool S.ideal, .slice d.ba d.bn d.bc, .slice d.ca d.cn d.cc, .int .u64 (S.count : Int), .bool S.reused, .bool S.forged] 37)).heap.size = w.heap.size + 1 from by simp] at this
  have Q1 : Hid (Below w.heap.size w ((w.alloc (.cells #[.bool S.ideal, .slice d.ba d.bn d.bc, .slice d.ca d.cn d.cc, .int .u64 (S.count : Int), .bool S.reused, .bool S.forged] 37)).alloc (.cells #[.bool false, .slice none 0 0, .slice none 0 0, .int .u64 0, .bool false, .bool false] 37))) := below2 w _ _
  have SZ : Hid (((w.alloc (.cells #[.bool S.ideal, .slice d.ba d.bn d.bc, .slice d.ca d.cn d.cc, .int .u64 (S.count : Int), .bool S.reused, .bool S.forged] 37)).alloc (.cells #[.bool false, .slice none 0 0, .slice none 0 0, .int .u64 0, .bool false, .bool false] 37)).heap.size = w.heap.size + 2) := size2 w _ _
  show Calls Tryz.prog _ #[.agg #[.bool S.ideal, .slice d.ba d.bn d.bc, .slice d.ca d.cn d.cc, .int .u64 (S.count : Int), .bool S.reused, .bool S.forged], _, _, _, _, _] w _
  go_enter Tryz.func12, Tryz.ntmps12
  go_upto_region 1 with fail
  obtain ⟨x12, h12⟩ : ∃ x, x = w.heap.size + 1 := ⟨_, rfl⟩
  obtain ⟨x6, h6⟩ : ∃ x, x = w.heap.size := ⟨_, rfl⟩
  rw [← h12] at B12
  rw [← h6] at B6
  rw [← h12, ← h6]
  have HX : Hid (x6 = w.heap.size ∧ x12 = w.heap.size + 1) := ⟨h6, h12⟩
  clear h6 h12
  generalize (w.alloc (.cells #[.bool S.ideal, .slice d.ba d.bn d.bc, .slice d.ca d.cn d.cc, .int .u64 (S.count : Int), .bool S.reused, .bool S.forged] 37)).alloc (.cells #[.bool false, .slice none 0 0, .slice none 0 0, .int .u64 0, .bool false, .bool false] 37) = w1 at *
  go_wp2_with fail
  refine (rCount w1 n (by omega)).mono ?_
  rintro e w2 ⟨rfl, rfl⟩
  go_wp2_with (first
    | ((with_reducible refine at_ld 37 ?_); (refine ld 37 (.tmp 6) 6 sizeRS _ Tryz.underlying37 rfl x6 0 (rsC S d) rfl B6.out.whole rfl ?_))
    | ((with_reducible refine at_st 37 ?_); (refine st' 37 (.tmp 12) (.tmp 37) 6 sizeRS x12 0 (rsC S d) rfl (rsC_one _ _) (B12.out.there 0 6 (by simp)) rfl rfl ?_); intro w8 hw8
       have Y8 : Hid (Blk w8 x12 (rsC S d) 37) := by rw [hw8]; exact B12.out.setsW _ rfl
       have K8 : Hid (Kp (fun j => j = x12) w1 w8) := by rw [hw8]; exact Kp.sets w1 x12 _ 0
       clear hw8))
  refine bodyPost_ret (v := .tuple #[.agg (rsC S d).toArray, .slice none 0 0, .int .i64 17]) (resCTT12 Tryz.results12 _ _ x12 _ rfl (run_loadVar_row _ x12 37 37 _ (0, 0) _ Y8.out Tryz.underlying37 rfl sizeRS) _ _ rfl rfl) rfl ?_
  exact ⟨S, d, none, 0, 0, rfl, Bs.nil _, Kp.new Q1.out K8.out fun i e => by have := HX.out; omega⟩

set_option maxRecDepth 100000 in
set_option maxHeartbeats 8000000 in
theorem rOpen13 (w : World) {S : SeaS} {d : Du} (h : RS (fun _ => True) w S d) {k what blk : List UInt8} {ak aw ab : Option Addr} {ck nw cw cb : Nat} (bk : Bs w ak 32 ck k) (bw : Bs w aw nw cw what) (bb : Bs w ab 512 cb blk) (zw : nw ≤ 60) (n i : Nat) (hn : n ≤ 1048576) (hi' : i < cnt n) (hz : S.book.length ≤ 900) :
    Calls Tryz.prog 12 #[rsV S d, .slice ak 32 ck, .slice aw nw cw, .int .i64 (n : Int), .int .i64 (i : Int), .slice ab 512 cb] w (OpR (opCode (zer (blk.drop (plen n i + 16))) (S.opens k (nonL 0 i) (bes what i (decide (i + 1 = cnt n))) (blk.take (plen n i + 16)))) (opText (zer (blk.drop (plen n i + 16))) (S.opens k (nonL 0 i) (bes what i (decide (i + 1 = cnt n))) (blk.take (plen n i + 16)))) w) := by
  have HR : Hid (RS (fun _ => True) w S d) := h
  have HK : Hid (Bs w ak 32 ck k) := bk
  have HW : Hid (Bs w aw nw cw what) := bw
  have HB : Hid (Bs w ab 512 cb blk) := bb
  have HWL : Hid (what.length = nw) := bw.len
  have HBL : Hid (blk.length = 512) := bb.len
  have HZ : Hid (S.book.length ≤ 1000) := by show _ ≤ _; omega
  have h1 : ¬ (n : Int) < 0 := by omega
  have h2 : ¬ (1048576 : Int) < (n : Int) := by omega
  have h3 : ¬ (i : Int) < 0 := by omega
  have h4 : ¬ (cnt n : Int) ≤ (i : Int) := by omega
  have hcs := cnt_small (n := n) (by omega)
  have hcp := cnt_pos n
  have hin := cnt_below hi'
  have hil : i ≤ 10000 := by omega
  obtain ⟨G, hG⟩ : ∃ G, G = 496 * i := ⟨_, rfl⟩
  have hGm : (496 : Int) * (i : Int) = (G : Int) := by omega
  have hGl : G ≤ 1048576 := by omega
  obtain ⟨D, hD⟩ : ∃ D, D = n - G := ⟨_, rfl⟩
  have hDs : (n : Int) - (G : Int) = (D : Int) := by omega
  have hDl : D ≤ 1048576 := by omega
  obtain ⟨P, hP⟩ : ∃ P, P = plen n i := ⟨_, rfl⟩
  have HPD : Hid (P = min 496 D) := by show _ = _; rw [hP, hD, hG]; rfl
  have hPl : P ≤ 496 := by have := HPD.out; omega
  obtain ⟨E, hE⟩ : ∃ E, E = P + 16 := ⟨_, rfl⟩
  have sE : (P : Int) + 16 = (E : Int) := by omega
  have wE : IntKind.i64.wrap (E : Int) = (E : Int) := by rw [IntKind.wrap_i64]; omega
  have hEl : E ≤ 512 := by omega
  have hE0 : 16 ≤ E := by omega
  obtain ⟨C1, hC1⟩ : ∃ C1, cnt n = C1 + 1 := ⟨cnt n - 1, by omega⟩
  have HC2 : Hid (cnt n = C1 + 1) := hC1
  have hwr : IntKind.i64.wrap ((cnt n : Int) - 1) = (C1 : Int) := by rw [IntKind.wrap_i64]; omega
  have hw3 : IntKind.u32.wrap (i : Int) = (i : Int) := by rw [IntKind.wrap_u32]; omega
  obtain ⟨lb, hlb⟩ : ∃ lb, ((i : Int) == (C1 : Int)) = lb := ⟨_, rfl⟩
  have HLB : Hid (lb = decide (i + 1 = cnt n)) := by show _ = _; rw [← hlb]; exact last_int HC2.out
  rw [← hP, ← hE, ← HLB.out]
  obtain ⟨O, hO⟩ : ∃ O, O = S.opens k (nonL 0 i) (bes what i lb) (blk.take E) := ⟨_, rfl⟩
  have HOO : Hid (O = S.opens k (nonL 0 i) (bes what i lb) (blk.take E)) := hO
  rw [← hO]
  obtain ⟨hcut2, hcb2⟩ := Bs.cutHigh bb E hEl
  have T1 : Hid (∀ u, Bs u ab 512 cb blk → Bs u ab E cb (blk.take E)) := fun u hu => hcb2 u hu
  have HDE : Hid ((blk.drop E).length = 512 - E) := by show _ = _; rw [List.length_drop, HBL.out]
  clear h bk bw bb hi' hG hD hP hE hC1 hO hcb2 hz hin
  have B6 : Hid (Blk ((w.alloc (.cells #[.bool S.ideal, .slice d.ba d.bn d.bc, .slice d.ca d.cn d.cc, .int .u64 (S.count : Int), .bool S.reused, .bool S.forged] 37)).alloc (.cells #[.bool false, .slice none 0 0, .slice none 0 0, .int .u64 0, .bool false, .bool false] 37)) w.heap.size (rsC S d) 37) := (Blk.new w #[.bool S.ideal, .slice d.ba d.bn d.bc, .slice d.ca d.cn d.cc, .int .u64 (S.count : Int), .bool S.reused, .bool S.forged] 37).old _
  have B12 : Hid (Blk ((w.alloc (.cells #[.bool S.ideal, .slice d.ba d.bn d.bc, .slice d.ca d.cn d.cc, .int .u64 (S.count : Int), .bool S.reused, .bool S.forged] 37)).alloc (.cells #[.bool false, .slice none 0 0, .slice none 0 0, .int .u64 0, .bool false, .bool false] 37)) (w.heap.size + 1) [.bool false, .slice none 0 0, .slice none 0 0, .int .u64 0, .bool false, .bool false] 37) := by
    have := Blk.new (w.alloc (.cells #[.bool S.ideal, .slice d.ba d.bn d.bc, .slice d.ca d.cn d.cc, .int .u64 (S.count : Int), .bool S.reused, .bool S.forged] 37)) #[.bool false, .slice none 0 0, .slice none 0 0, .int .u64 0, .bool false, .bool false] 37
    rwa [show (w.alloc (.cells #[.bool S.ideal, .slice d.ba d.bn d.bc, .slice d.ca d.cn d.cc, .int .u64 (S.count : Int), .bool S.reused, .bool S.forged] 37)).heap.size = w.heap.size + 1 from by simp] at this
  have Q1 : Hid (Below w.heap.size w ((w.alloc (.cells #[.bool S.ideal, .slice d.ba d.bn d.bc, .slice d.ca d.cn d.cc, .int .u64 (S.count : Int), .bool S.reused, .bool S.forged] 37)).alloc (.cells #[.bool false, .slice none 0 0, .slice none 0 0, .int .u64 0, .bool false, .bool false] 37))) := below2 w _ _
  have SZ : Hid (((w.alloc (.cells #[.bool S.ideal, .slice d.ba d.bn d.bc, .slice d.ca d.cn d.cc, .int .u64 (S.count : Int), .bool S.reused, .bool S.forged] 37)).alloc (.cells #[.bool false, .slice none 0 0, .slice none 0 0, .int .u64 0, .bool false, .bool false] 37)).heap.size = w.heap.size + 2) := size2 w _ _
  show Calls Tryz.prog _ #[.agg #[.bool S.ideal, .slice d.ba d.bn d.bc, .slice d.ca d.cn d.cc, .int .u64 (S.count : Int), .bool S.reused, .bool S.forged], _, _, _, _, _] w _
  go_enter Tryz.func12, Tryz.ntmps12
  go_upto_region 1 with fail
  obtain ⟨x12, h12⟩ : ∃ x, x = w.heap.size + 1 := ⟨_, rfl⟩
  obtain ⟨x6, h6⟩ : ∃ x, x = w.heap.size := ⟨_, rfl⟩
  rw [← h12] at B12
  rw [← h6] at B6
  rw [← h12, ← h6]
  have HX : Hid (x6 = w.heap.size ∧ x12 = w.heap.size + 1) := ⟨h6, h12⟩
  clear h6 h12
  generalize (w.alloc (.cells #[.bool S.ideal, .slice d.ba d.bn d.bc, .slice d.ca d.cn d.cc, .int .u64 (S.count : Int), .bool S.reused, .bool S.forged] 37)).alloc (.cells #[.bool false, .slice none 0 0, .slice none 0 0, .int .u64 0, .bool false, .bool false] 37) = w1 at *
  go_wp2_with fail
  refine (rCount w1 n (by omega)).mono ?_
  rintro e w2 ⟨rfl, rfl⟩
  go_upto_if 43 with fail
  go_cut [15] (fun v wx => v = .int .i64 (P : Int) ∧ w1 = wx)
  case first =>
    by_cases hd : 496 < D
    · have hd' : (496 : Int) < (D : Int) := by omega
      obtain rfl : P = 496 := by have := HPD.out; omega
      go_wp2_with fail
      go_meet
      case rel => exact ⟨rfl, rfl⟩
    · have hd' : ¬ (496 : Int) < (D : Int) := by omega
      obtain rfl : P = D := by have := HPD.out; omega
      go_wp2_with fail
      go_meet
      case rel => exact ⟨rfl, rfl⟩
  case rest =>
  obtain ⟨rfl, hw2⟩ := hcut
  subst hw2
  go_wp2_with fail
  go_loopw [16] (fun v wr => ∃ q : Nat, E ≤ q ∧ q ≤ 512 ∧ v = .int .i64 (q : Int) ∧ Hid (zer ((blk.drop E).take (q - E)) = true) ∧ w1 = wr) (fun v _ => 512 - (intOf v).toNat)
  case atStart => exact ⟨E, Nat.le_refl _, hEl, rfl, by show _ = _; rw [Nat.sub_self]; rfl, rfl⟩
  case round =>
    obtain ⟨q, hq1, hq2, rfl, HZQ, rfl⟩ := hrel
    by_cases hlt : q < 512
    · have i0 : (q : Int) < 512 := by omega
      obtain ⟨b, o, hab, hlb', hcell⟩ := HB.out.at (by omega)
      subst hab
      have hc : w1.cell? ⟨b, o + q, none⟩ = some (.int .u8 (bt blk q)) := by
        rw [Q1.out.cell (p := ⟨b, o + q, none⟩) hlb']
        exact hcell q hlt
      have lb1 : b < w1.heap.size := lt_of_cell hc
      have hgd : (blk.drop E).getD (q - E) 0 = blk.getD q 0 := by
        rw [List.getD_eq_getElem?_getD, List.getElem?_drop, show E + (q - E) = q from by omega, ← List.getD_eq_getElem?_getD]
      by_cases hx : blk.getD q 0 = 0
      · have hb0 : bt blk q = 0 := by unfold bt; rw [hx]; rfl
        rw [hb0] at hc
        have HN : Hid (zer ((blk.drop E).take (q + 1 - E)) = true) := by
          show _ = _
          rw [show q + 1 - E = (q - E) + 1 from by omega]
          exact zer_take HZQ.out (by rw [HDE.out]; omega) (by rw [hgd]; exact hx)
        clear hcell hgd hx hb0 HZQ
        go_wp2_with fail
        go_roundw
        case rel => exact ⟨q + 1, by omega, by omega, by go_num, HN, (by first | rfl | trivial)⟩
        case measure => simp [intOf]; omega
      · have hb0 : ¬ bt blk q = 0 := by
          unfold bt
          intro e
          refine hx (UInt8.toNat_inj.1 ?_)
          have : (0 : UInt8).toNat = 0 := rfl
          omega
        have HF : Hid (zer (blk.drop E) = false) := zer_not (k := q - E) (by rw [HDE.out]; omega) (by rw [hgd]; exact hx)
        have hb1 := bt_lo blk q
        have hb2 := bt_hi blk q
        clear hcell hgd hx HZQ
        generalize bt blk q = z at *
        go_wp2_with (first
          | ((with_reducible refine at_ld 37 ?_); (refine ld 37 (.tmp 6) 6 sizeRS _ Tryz.underlying37 rfl x6 0 (rsC S d) rfl B6.out.whole rfl ?_))
          | ((with_reducible refine at_st 37 ?_); (refine st' 37 (.tmp 12) (.tmp 55) 6 sizeRS x12 0 (rsC S d) rfl (rsC_one _ _) (B12.out.there 0 6 (by simp)) rfl rfl ?_); intro w8 hw8
             have Y8 : Hid (Blk w8 x12 (rsC S d) 37) := by rw [hw8]; exact B12.out.setsW _ rfl
             have K8 : Hid (Kp (fun j => j = x12) w1 w8) := by rw [hw8]; exact Kp.sets w1 x12 _ 0
             clear hw8))
        refine bodyPost_ret (v := .tuple #[.agg (rsC S d).toArray, .slice none 0 0, .int .i64 6]) (resCTT12 Tryz.results12 _ _ x12 _ rfl (run_loadVar_row _ x12 37 37 _ (0, 0) _ Y8.out Tryz.underlying37 rfl sizeRS) _ _ rfl rfl) rfl ?_
        refine ⟨S, d, none, 0, 0, ?_, ?_, Kp.new Q1.out K8.out fun i e => by have := HX.out; omega⟩
        · rw [HF.out]; rfl
        · rw [HF.out]; exact Bs.nil _
    · have i0 : ¬ (q : Int) < 512 := by omega
      have HF : Hid (zer (blk.drop E) = true) := by
        show _ = _
        have := HZQ.out
        rwa [List.take_of_length_le (by rw [HDE.out]; omega)] at this
      have HNX : Hid (∀ u : World, w1.heap.size ≤ u.heap.size → ∀ j, u.heap.size ≤ j → j ≠ x12) := fun u hu j hj => by have := B12.out.lt; omega
      have R1 : Hid (RS (fun j => j ≠ x12) w1 S d) := (HR.out.mono fun j hj _ => by have := HX.out; omega).grow Q1.out
      have hx612 : x6 ≠ x12 := by have := HX.out; omega
      clear HZQ
      go_wp2_with fail
      refine regionG (S := Kp (fun j => j = x12) w1) (by kernel_rfl) (Kp.of_below (Below.refl _ w1).drew) ?_
      refine takeG 0 (some 56) (rsV S d) rfl rfl (by kernel_rfl) (by kernel_rfl) (by kernel_rfl) (fun _ _ _ h => h) (ans_row 37 (.tmp 6) _ 6 rfl (by rfl) x6 0 rfl (rsC S d) (fun u h => (h.blk B6.out hx612).whole) Tryz.underlying37 rfl rfl sizeRS) ?_
      simp only [Act.put, List.setIfInBounds_toArray, List.set_cons_zero, List.set_cons_succ]
      refine takeG 1 (some 57) (.slice ak 32 ck) rfl rfl (by kernel_rfl) (by kernel_rfl) (by kernel_rfl) (fun _ _ _ h => h) (ans_plain (by rfl) (fun w _ => rfl)) ?_
      simp only [Act.put, List.setIfInBounds_toArray, List.set_cons_zero, List.set_cons_succ]
      refine takeG 2 (some 58) (.int .i64 (i : Int)) rfl rfl (by kernel_rfl) (by kernel_rfl) (by kernel_rfl) (fun _ _ _ h => h) (ans_plain (by rfl) (fun w _ => rfl)) ?_
      simp only [Act.put, List.setIfInBounds_toArray, List.set_cons_zero, List.set_cons_succ]
      refine takeG 3 (some 59) (.int .u32 (i : Int)) rfl rfl (by kernel_rfl) (by kernel_rfl) (by kernel_rfl) (fun _ _ _ h => h) (ans_plain (by rfl) (fun w _ => by unfold execOp; go_simp)) ?_
      simp only [Act.put, List.setIfInBounds_toArray, List.set_cons_zero, List.set_cons_succ]
      refine takeG 5 (some 61) (.slice aw nw cw) rfl rfl (by kernel_rfl) (by kernel_rfl) (by kernel_rfl) (fun _ _ _ h => h) (ans_plain (by rfl) (fun w _ => rfl)) ?_
      simp only [Act.put, List.setIfInBounds_toArray, List.set_cons_zero, List.set_cons_succ]
      refine takeG 6 (some 62) (.int .i64 (i : Int)) rfl rfl (by kernel_rfl) (by kernel_rfl) (by kernel_rfl) (fun _ _ _ h => h) (ans_plain (by rfl) (fun w _ => rfl)) ?_
      simp only [Act.put, List.setIfInBounds_toArray, List.set_cons_zero, List.set_cons_succ]
      refine takeG 7 (some 63) (.int .i64 (i : Int)) rfl rfl (by kernel_rfl) (by kernel_rfl) (by kernel_rfl) (fun _ _ _ h => h) (ans_plain (by rfl) (fun w _ => rfl)) ?_
      simp only [Act.put, List.setIfInBounds_toArray, List.set_cons_zero, List.set_cons_succ]
      refine takeG 8 (some 64) (.int .i64 (n : Int)) rfl rfl (by kernel_rfl) (by kernel_rfl) (by kernel_rfl) (fun _ _ _ h => h) (ans_plain (by rfl) (fun w _ => rfl)) ?_
      simp only [Act.put, List.setIfInBounds_toArray, List.set_cons_zero, List.set_cons_succ]
      refine takeG 13 (some 69) (.slice ab 512 cb) rfl rfl (by kernel_rfl) (by kernel_rfl) (by kernel_rfl) (fun _ _ _ h => h) (ans_plain (by rfl) (fun w _ => rfl)) ?_
      simp only [Act.put, List.setIfInBounds_toArray, List.set_cons_zero, List.set_cons_succ]
      refine takeG 14 (some 70) (.int .i64 (P : Int)) rfl rfl (by kernel_rfl) (by kernel_rfl) (by kernel_rfl) (fun _ _ _ h => h) (ans_plain (by rfl) (fun w _ => rfl)) ?_
      simp only [Act.put, List.setIfInBounds_toArray, List.set_cons_zero, List.set_cons_succ]
      refine takeG 15 (some 71) (.int .i64 (E : Int)) rfl rfl (by kernel_rfl) (by kernel_rfl) (by kernel_rfl) (fun _ _ _ h => h) (ans_plain (by rfl) (fun w _ => by unfold execOp; go_simp)) ?_
      simp only [Act.put, List.setIfInBounds_toArray, List.set_cons_zero, List.set_cons_succ]
      refine takeG 16 (some 72) (.slice ab E cb) rfl rfl (by kernel_rfl) (by kernel_rfl) (by kernel_rfl) (fun _ _ _ h => h) (ans_plain (by rfl) (fun w _ => by have hc := hcut2 w; unfold execOp; go_simp)) ?_
      simp only [Act.put, List.setIfInBounds_toArray, List.set_cons_zero, List.set_cons_succ]
      refine callG 4 (some 60) 26 #[.const (.int .u64 0), .tmp 59] #[35, 68] #[.int .u64 0, .int .u32 (i : Int)] rfl rfl rfl (by rfl) (by rfl) (by kernel_rfl) Tryz.call26 fun v1 hg1 hs1 => ?_
      have P1 : Below w1.heap.size w1 v1 := Grows.ofDrew hg1
      refine (rNonce12 v1 0 i (by omega) (by omega)).mono ?_
      rintro e v2 ⟨an, mn, cn, rfl, on, hbn⟩
      have lmn := on.toBs.len
      rw [nonL_length] at lmn
      subst lmn
      have P2 : Below w1.heap.size w1 v2 := P1.trans (hbn.mono P1.size)
      refine ⟨_, rfl, hs1.trans (Kp.of_below hbn), ?_⟩
      simp only [Act.put, List.setIfInBounds_toArray, List.set_cons_zero, List.set_cons_succ]
      refine takeG 9 (some 65) (.int .i64 (cnt n : Int)) rfl rfl (by kernel_rfl) (by kernel_rfl) (by kernel_rfl) (fun _ _ _ h => h) (ans_call 24 #[.tmp 64] #[3] #[.int .i64 (n : Int)] rfl (by rfl) (by rfl) Tryz.call24 fun u hu => (rCount u n (by omega)).mono fun e w' ⟨he, hw⟩ => ⟨he, by rw [hw]; exact Grows.refl _, by rw [← hw]; exact hu⟩) ?_
      simp only [Act.put, List.setIfInBounds_toArray, List.set_cons_zero, List.set_cons_succ]
      refine takeG 10 (some 66) (.int .i64 (C1 : Int)) rfl rfl (by kernel_rfl) (by kernel_rfl) (by kernel_rfl) (fun _ _ _ h => h) (ans_plain (by rfl) (fun w _ => by unfold execOp; go_simp)) ?_
      simp only [Act.put, List.setIfInBounds_toArray, List.set_cons_zero, List.set_cons_succ]
      refine takeG 11 (some 67) (.bool lb) rfl rfl (by kernel_rfl) (by kernel_rfl) (by kernel_rfl) (fun _ _ _ h => h) (ans_plain (by rfl) (fun w _ => by unfold execOp; go_simp)) ?_
      simp only [Act.put, List.setIfInBounds_toArray, List.set_cons_zero, List.set_cons_succ]
      refine callG 12 (some 68) 27 #[.tmp 61, .tmp 62, .tmp 67] #[22, 3, 4] #[.slice aw nw cw, .int .i64 (i : Int), .bool lb] rfl rfl rfl (by rfl) (by rfl) (by kernel_rfl) Tryz.call27 fun v3 hg3 hs3 => ?_
      have P3 : Below w1.heap.size w1 v3 := P2.trans (Below.mono hg3 P2.size)
      refine (rBeside v3 (HW.out.below (Q1.out.trans (P3.mono Q1.out.size)) (Nat.le_refl _)) (by omega) i (by omega) lb).mono ?_
      rintro e v4 ⟨ab4, mb, cb4, rfl, ob, hbb⟩
      have lmb := ob.toBs.len
      rw [bes_length, HWL.out] at lmb
      have P4 : Below w1.heap.size w1 v4 := P3.trans (hbb.mono P3.size)
      have N4 := (on.toBs.below hg3 (Nat.le_refl _)).below hbb (Nat.le_refl _)
      refine ⟨_, rfl, hs3.trans (Kp.of_below hbb), ?_⟩
      simp only [Act.put, List.setIfInBounds_toArray, List.set_cons_zero, List.set_cons_succ]
      refine callG 17 (some 73) 32 #[.tmp 56, .tmp 57, .tmp 60, .tmp 68, .tmp 72] #[37, 22, 22, 22, 22] #[rsV S d, .slice ak 32 ck, .slice an 12 cn, .slice ab4 mb cb4, .slice ab E cb] rfl rfl rfl (by rfl) (by rfl) (by kernel_rfl) Tryz.call32 fun v5 hg5 hs5 => ?_
      have P5 : Below w1.heap.size w1 v5 := P4.trans (Below.mono hg5 P4.size)
      have P5w : Below w.heap.size w v5 := Q1.out.trans (P5.mono Q1.out.size)
      refine (rOpen12 v5 (A := fun j => j ≠ x12) (HNX.out v5 P5.size) (R1.out.grow P5) (HK.out.below P5w (Nat.le_refl _)) (N4.below hg5 (Nat.le_refl _)) (ob.toBs.below hg5 (Nat.le_refl _)) (T1.out v5 (HB.out.below P5w (Nat.le_refl _))) (by omega) (by omega) HZ.out).mono ?_
      rintro e v6 ⟨sa, sn, sc, rfl, _, hBA, hb6⟩
      rw [← HOO.out] at hBA ⊢
      obtain ⟨S2, hS2⟩ : ∃ S2, S2 = S.opened k (nonL 0 i) (bes what i lb) (blk.take E) := ⟨_, rfl⟩
      rw [← hS2]
      obtain ⟨cd, hcd⟩ : ∃ cd : Int, cd = (if O.isSome then 0 else 6) := ⟨_, rfl⟩
      rw [← hcd]
      have P6 : Below w1.heap.size w1 v6 := P5.trans (hb6.mono P5.size)
      have Y6 := B12.out.below P6 B12.out.lt
      refine ⟨_, rfl, hs5.trans (Kp.of_below hb6), ?_⟩
      simp only [Act.put, List.setIfInBounds_toArray, List.set_cons_zero, List.set_cons_succ]
      refine takeG 18 (some 74) (rsV S2 d) rfl rfl (by kernel_rfl) (by kernel_rfl) (by kernel_rfl) (fun _ _ _ h => h) (ans_plain (by rfl) (fun w _ => by unfold execOp; go_simp)) ?_
      simp only [Act.put, List.setIfInBounds_toArray, List.set_cons_zero, List.set_cons_succ]
      refine takeG 19 (some 75) (.slice sa sn sc) rfl rfl (by kernel_rfl) (by kernel_rfl) (by kernel_rfl) (fun _ _ _ h => h) (ans_plain (by rfl) (fun w _ => by unfold execOp; go_simp)) ?_
      simp only [Act.put, List.setIfInBounds_toArray, List.set_cons_zero, List.set_cons_succ]
      refine takeG 20 (some 76) (.int .i64 cd) rfl rfl (by kernel_rfl) (by kernel_rfl) (by kernel_rfl) (fun _ _ _ h => h) (ans_plain (by rfl) (fun w _ => by unfold execOp; go_simp)) ?_
      simp only [Act.put, List.setIfInBounds_toArray, List.set_cons_zero, List.set_cons_succ]
      refine oneG 21 (by kernel_rfl) fun v7 hg7 hs7 => ?_
      refine opStR 21 37 (.tmp 12) (.tmp 74) 6 rfl rfl rfl rfl x12 _ (rsC S2 d) 37 (Y6.below hg7 Y6.lt) rfl rfl (rsC_one _ _) sizeRS rfl rfl fun v8 b8 k8 => ?_
      have B7 := (hBA.below' hg7).kp k8 fun j hj e => hj e
      have P7 : Below w.heap.size w v7 := Q1.out.trans ((P6.trans (Below.mono hg7 P6.size)).mono Q1.out.size)
      have P8 : Below w.heap.size w v8 := Kp.new P7 k8 fun j e => by have := HX.out; omega
      refine ⟨hs7.trans k8, ?_⟩
      refine takeG 22 (some 13) (.slice sa sn sc) rfl rfl (by kernel_rfl) (by kernel_rfl) (by kernel_rfl) (fun _ _ _ h => h) (ans_plain (by rfl) (fun w _ => rfl)) ?_
      simp only [Act.put, List.setIfInBounds_toArray, List.set_cons_zero, List.set_cons_succ]
      refine takeG 23 (some 14) (.int .i64 cd) rfl rfl (by kernel_rfl) (by kernel_rfl) (by kernel_rfl) (fun _ _ _ h => h) (ans_plain (by rfl) (fun w _ => rfl)) ?_
      simp only [Act.put, List.setIfInBounds_toArray, List.set_cons_zero, List.set_cons_succ]
      refine doneG (by kernel_rfl) fun v9 hg9 hs9 => ?_
      have Y9 : Hid (Blk v9 x12 (rsC S2 d) 37) := b8.below hg9 b8.lt
      have B9 : Hid (Bs v9 sa sn sc (O.getD [])) := (B7.below' hg9).1
      have P9 : Hid (Below w.heap.size w v9) := P8.trans (Below.mono hg9 P8.size)
      have HCD : Hid (cd = (if O.isSome then 0 else 6)) := hcd
      clear hcd hS2 B7 P7 P8 b8 k8 hg7 hs7 hg9 hs9 Y6 P6 hb6 hBA P5 P5w hg5 hs5 N4 P4 hbb ob hg3 hs3 P3 P2 hbn on P1 hg1 hs1 R1 hcut2
      go_wp2_with fail
      refine bodyPost_ret (v := .tuple #[.agg (rsC S2 d).toArray, .slice sa sn sc, .int .i64 cd]) (resCTT12 Tryz.results12 _ _ x12 _ rfl (run_loadVar_row _ x12 37 37 _ (0, 0) _ Y9.out Tryz.underlying37 rfl sizeRS) _ _ rfl rfl) rfl ?_
      refine ⟨S2, d, sa, sn, sc, ?_, ?_, P9.out⟩
      · rw [HF.out, HCD.out]; rfl
      · rw [HF.out]; exact B9.out

end Go.Proofs.YtfknplcnfpincaaGreat

/-
  Contracts of layer 13's statements' own functions Key and Long; a text's bytes marked wherever they lie. Condition: long texts of at most 2000 bytes.
-/
namespace Go.Proofs.YtfknplcnfpincaaGreat
open Go.RowKit
set_option linter.unusedVariables false

def KeysC (w : World) (n : Nat) (e : Ending) (w' : World) : Prop := ∃ g, e = .returned (.slice (some ⟨g, 0, none⟩) 32 32) ∧ w.heap.size ≤ g ∧ Own w' w.heap.size (.slice (some ⟨g, 0, none⟩) 32 32) (keyC n) ∧ Below w.heap.size w w'
theorem keyC_set (n : Nat) : (List.replicate 32 (0 : UInt8)).set 31 (UInt8.ofNat n) = keyC n := rfl
theorem keyC_int {n : Nat} (h : n ≤ 255) : ((UInt8.ofNat n).toNat : Int) = (n : Int) := by
  rw [UInt8.toNat_ofNat']
  omega
set_option maxHeartbeats 1000000 in
theorem lKey13 (w : World) (n : Nat) (hn : n ≤ 255) : Calls Tryz.prog 8 #[.int .u8 (n : Int)] w (KeysC w n) := by
  go_enter Tryz.func8, Tryz.ntmps8
  go_wp2_with (at_make; refine wpList_mkn _ rfl _ _ rfl w.heap.size 32 _ rfl rfl rfl (by omega) (Nat.le_refl _) ?_; intro g w1 hg hgl hown hbel
               have hlen : (List.replicate 32 (0 : UInt8)).length = 32 := by simp
               obtain ⟨v0, hcell⟩ := hown.cell hlen 31 (by omega)
               have hfr := hown.free hlen 31)
  go_ret
  have hlen : (List.replicate 32 (0 : UInt8)).length = 32 := by simp
  have ho2 := hown.set hlen 31 (UInt8.ofNat n)
  rw [keyC_set] at ho2
  have hb2 := hbel.setCell (p := ⟨g, 31, none⟩) hg (.int .u8 ((UInt8.ofNat n).toNat : Int))
  rw [keyC_int hn] at ho2 hb2
  exact ⟨g, rfl, hg, ho2, hb2⟩

theorem long_in {b : List UInt8} {i : Nat} (h : i < b.length) : UInt8.ofNat (bt b i).toNat = longB b i := by
  unfold longB
  rw [if_pos h]
  unfold bt
  rw [Int.toNat_natCast]
  simp
theorem long_out {b : List UInt8} {i : Nat} (h : ¬ i < b.length) : UInt8.ofNat ((i / 7) % 256) = longB b i := by
  unfold longB
  rw [if_neg h]
  apply UInt8.toNat_inj.1
  simp
set_option maxHeartbeats 2000000 in
theorem lLong (w : World) {a : Option Addr} {m c : Nat} {b : List UInt8} (h : Bs w a m c b) (n : Nat) (hn : n ≤ 2000) (hm : m ≤ 1000000) : Calls Tryz.prog 6 #[.slice a m c, .int .i64 (n : Int)] w (Gives w (longL b n)) := by
  have HB : Hid (Bs w a m c b) := h
  have HL : Hid (b.length = m) := h.len
  clear h
  go_enter Tryz.func6, Tryz.ntmps6
  go_wp2_with fail
  go_loopw [5, 6] (fun out i wr => ∃ (k : Nat) (oa : Option Addr) (on oc : Nat), k ≤ n ∧ i = .int .i64 (k : Int) ∧ out = .slice oa on oc ∧ Hid (Own wr w.heap.size (.slice oa on oc) (longL b k)) ∧ Hid (Below w.heap.size w wr)) (fun _ i _ => n - (intOf i).toNat)
  case atStart => exact ⟨0, none, 0, 0, Nat.zero_le _, rfl, rfl, Own.nil _ _, Below.refl _ _⟩
  case round =>
    obtain ⟨k, oa, on, oc, hk, rfl, rfl, ho, hb⟩ := hrel
    by_cases hlt : k < n
    · have i0 : (k : Int) < (n : Int) := by omega
      obtain ⟨q, hq⟩ : ∃ q, q = k / 7 := ⟨_, rfl⟩
      have hqd : (k : Int).tdiv 7 = (q : Int) := by rw [hq]; exact tdiv_nat k 7
      have hql : q ≤ 1000 := by omega
      obtain ⟨z, hz⟩ : ∃ z, z = q % 256 := ⟨_, rfl⟩
      have hz1 : IntKind.u8.wrap (q : Int) = (z : Int) := by rw [IntKind.wrap_u8]; omega
      have hz2 : (q : Int) % 256 = (z : Int) := by omega
      have hz3 : z ≤ 255 := by omega
      have HRM : Hid ((longL b k).length + 1 ≤ 1000000000) := by show _ ≤ _; rw [longL_length]; omega
      by_cases him : k < m
      · have j0 : (k : Int) < (m : Int) := by omega
        obtain ⟨x, o, hxa, hlx, hcell⟩ := HB.out.at (by omega)
        subst hxa
        have hc : wr.cell? ⟨x, o + k, none⟩ = some (.int .u8 (bt b k)) := by
          rw [hb.out.cell (p := ⟨x, o + k, none⟩) hlx]
          exact hcell k him
        have b0 := bt_lo b k
        have b1 := bt_hi b k
        have HE : Hid (longL b k ++ [UInt8.ofNat (bt b k).toNat] = longL b (k + 1)) := by show _ = _; rw [longL_succ, long_in (by rw [HL.out]; exact him)]
        obtain ⟨y, hy⟩ : ∃ y, y = bt b k := ⟨_, rfl⟩
        rw [← hy] at hc b0 b1 HE
        have HX : Hid (Bs (wr.alloc (.cells #[.int .u8 y] 5)) (some ⟨wr.heap.size, 0, none⟩) 1 1 [UInt8.ofNat y.toNat]) := Bs.one wr y b0 b1
        have HO : Hid (Own (wr.alloc (.cells #[.int .u8 y] 5)) w.heap.size (.slice oa on oc) (longL b k)) := ho.out.below (below_alloc wr _) (Nat.le_refl _)
        have HQ : Hid (Below w.heap.size w (wr.alloc (.cells #[.int .u8 y] 5))) := hb.out.trans ((below_alloc wr _).mono hb.out.size)
        clear hcell hy hq hz
        have lx : x < wr.heap.size := lt_of_cell hc
        go_wp2_with (at_builtin; refine wpList_app (wr.alloc (.cells #[.int .u8 y] 5)) rfl (.tmp 24) (.tmp 26) rfl w.heap.size (.slice oa on oc) _ rfl HO.out (some ⟨wr.heap.size, 0, none⟩) 1 1 [UInt8.ofNat y.toNat] rfl HX.out HRM.out HQ.out.size ?_; intro v3 w3 o3 hb3; have O3 : Hid (Own w3 w.heap.size v3 (longL b (k + 1))) := (by rw [HE.out] at o3; exact o3); clear o3)
        obtain ⟨oa3, oc3, hv3, _⟩ := O3.out.bs
        subst hv3
        go_roundw
        case rel => exact ⟨k + 1, _, _, _, by omega, by go_num, rfl, O3, HQ.out.trans hb3⟩
        case measure => simp [intOf]; omega
      · have j0 : ¬ (k : Int) < (m : Int) := by omega
        have HE : Hid (longL b k ++ [UInt8.ofNat (z : Int).toNat] = longL b (k + 1)) := by show _ = _; rw [longL_succ, Int.toNat_natCast, hz, hq, long_out (by rw [HL.out]; exact him)]
        have HX : Hid (Bs (wr.alloc (.cells #[.int .u8 (z : Int)] 5)) (some ⟨wr.heap.size, 0, none⟩) 1 1 [UInt8.ofNat (z : Int).toNat]) := Bs.one wr (z : Int) (by omega) (by omega)
        have HO : Hid (Own (wr.alloc (.cells #[.int .u8 (z : Int)] 5)) w.heap.size (.slice oa on oc) (longL b k)) := ho.out.below (below_alloc wr _) (Nat.le_refl _)
        have HQ : Hid (Below w.heap.size w (wr.alloc (.cells #[.int .u8 (z : Int)] 5))) := hb.out.trans ((below_alloc wr _).mono hb.out.size)
        clear hq hz
        go_wp2_with (at_builtin; refine wpList_app (wr.alloc (.cells #[.int .u8 (z : Int)] 5)) rfl (.tmp 24) (.tmp 26) rfl w.heap.size (.slice oa on oc) _ rfl HO.out (some ⟨wr.heap.size, 0, none⟩) 1 1 [UInt8.ofNat (z : Int).toNat] rfl HX.out HRM.out HQ.out.size ?_; intro v3 w3 o3 hb3; have O3 : Hid (Own w3 w.heap.size v3 (longL b (k + 1))) := (by rw [HE.out] at o3; exact o3); clear o3)
        obtain ⟨oa3, oc3, hv3, _⟩ := O3.out.bs
        subst hv3
        go_roundw
        case rel => exact ⟨k + 1, _, _, _, by omega, by go_num, rfl, O3, HQ.out.trans hb3⟩
        case measure => simp [intOf]; omega
    · have i0 : ¬ (k : Int) < (n : Int) := by omega
      obtain rfl : k = n := by omega
      go_wp2_with fail
      go_ret
      exact Gives.mk ho.out hb.out

/-- '[]byte("..")': the row gets its mark, wherever it lies. -/
theorem run_conv_at (w : World) (g n c : Nat) (C : Array Value) (h : w.heap[g]? = some (.cells C 5)) : Sem.run Tryz.prog (convert 22 22 (.slice (some ⟨g, 0, none⟩) n c)) w = .ok (.slice (some ⟨g, 0, none⟩) n c) (w.freeze ⟨g, C.size, none⟩ 1) := by
  have hsh : w.shape? g = some (5, C.size) := by
    unfold World.shape?
    rw [h]
  simp [convert, run_underlying Tryz.underlying22, run_underlying Tryz.underlying5, markStringish, hsh]
theorem freeze_kp (w : World) (g k : Nat) : Kp (fun j => j = g) w (w.freeze ⟨g, k, none⟩ 1) := by
  unfold World.freeze
  rw [if_neg (by decide)]
  refine ⟨rfl, rfl, rfl, by simp, fun j hj hn => ?_⟩
  show (w.heap.modify g _)[j]? = _
  rw [Array.getElem?_modify, if_neg (fun e => hn e.symm)]
theorem freeze_blk (w : World) (g : Nat) (C : Array Value) (h : w.heap[g]? = some (.cells C 5)) : (w.freeze ⟨g, C.size, none⟩ 1).heap[g]? = some (.cells C 5 (C.size, C.size + 1)) := by
  unfold World.freeze
  rw [if_neg (by decide)]
  show (w.heap.modify g _)[g]? = _
  rw [Array.getElem?_modify, if_pos rfl, h]
  rfl
/-- A literal of one byte, wherever it comes. -/
theorem opLitB {ops : Array Oper} {Q : Exit → Act → World → Prop} {i : Nat} {oi : Oper} (d : Option Tmp) (hi : ops[i]? = some oi) (hd : oi.dst = d) (hg : oi.guard = none) (z : Int) (ho : oi.op = .buildSlice 22 1 #[(0, .const (.int .u8 z))]) {K : Act → World → Prop} {a : Act} {w : World}
    (k : K (a.put d (.slice (some ⟨w.heap.size, 0, none⟩) 1 1)) (w.alloc (.cells #[.int .u8 z] 5))) : wpOp Tryz.prog ops Q i K a w := by
  subst hd
  have hK : Hid _ := k
  clear k
  unfold wpOp
  simp only [hi]
  rw [if_pos (by simp [Region.wanted, hg])]
  left
  unfold Oper.wp execOp
  simp only [ho]
  go_simp
  exact hK.out
/-- Its mark, wherever it comes. -/
theorem opConv {ops : Array Oper} {Q : Exit → Act → World → Prop} {i : Nat} {oi : Oper} (d : Option Tmp) (hi : ops[i]? = some oi) (hd : oi.dst = d) (hg : oi.guard = none) (x : Operand) (ho : oi.op = .convert 22 22 x) {K : Act → World → Prop} {a : Act} {w : World} (g n c : Nat) (C : Array Value) (hx : a.eval x = .slice (some ⟨g, 0, none⟩) n c) (h : w.heap[g]? = some (.cells C 5))
    (k : K (a.put d (.slice (some ⟨g, 0, none⟩) n c)) (w.freeze ⟨g, C.size, none⟩ 1)) : wpOp Tryz.prog ops Q i K a w := by
  subst hd
  have hr := run_conv_at w g n c C h
  unfold wpOp
  simp only [hi]
  rw [if_pos (by simp [Region.wanted, hg])]
  left
  unfold Oper.wp execOp
  simp only [ho, hx, hr, Sem.run_bind, Sem.run_pure, Result.andThen_ok]
  exact k
theorem Bs.ofMark {w : World} {g : Nat} {l : List UInt8} {f : Nat × Nat} {C : Array Value} (h : w.heap[g]? = some (.cells C 5 f)) (hC : C.toList = cs l) (hl : l.length ≤ 1000000) : Bs w (some ⟨g, 0, none⟩) l.length l.length l := by
  refine ⟨rfl, Nat.le_refl _, by unfold maxLen; omega, by simp, fun i hi => ⟨g, 0, rfl, ?_⟩⟩
  rw [Nat.zero_add, cell_of_row w g i C 5 f h, ← Array.getElem?_toList, hC, cs_get hi]
/-- A block among others, and where it lies. -/
theorem BB.at2 {A : Nat → Prop} {w : World} {a : Option Addr} {n c : Nat} {ls : List (List UInt8)} (h : BB A w a n c ls) {s : Nat} {x : List UInt8} (hx : ls[s]? = some x) : ∃ b o p m q, a = some ⟨b, o, none⟩ ∧ b < w.heap.size ∧ A b ∧ w.cell? ⟨b, o + s, none⟩ = some (.slice p m q) ∧ BA A w p m q x := by
  obtain ⟨b, o, p, m, q, ha, hlt, hc, hb⟩ := h.at hx
  have hs : s < ls.length := (List.getElem?_eq_some_iff.1 hx).1
  obtain ⟨_, _, hl, _, _, _, h5⟩ := h
  obtain ⟨b', o', ha', _, hA, _⟩ := h5 (by omega)
  rw [ha] at ha'
  obtain ⟨rfl, _⟩ : b = b' ∧ o = o' := by simpa using ha'
  exact ⟨b, o, p, m, q, ha, hlt, hA, hc, hb⟩

end Go.Proofs.YtfknplcnfpincaaGreat

/-
  The contract of layer 12's program's New: a sealer, its book empty. No condition.
-/
namespace Go.Proofs.YtfknplcnfpincaaGreat
open Go.RowKit
set_option linter.unusedVariables false

def noneK {κ : Type} : κ → Option Value := fun _ => none
theorem fst_new (i : Bool) : fstK (SeaS.new i) = noneK := rfl
theorem kid_new (i : Bool) : kidK (SeaS.new i) = noneK := rfl
theorem txt_new (i : Bool) : TxtK (SeaS.new i) noneK := fun o => rfl
theorem builtBook (m1 m2 : Option Nat) : Tryz.prog.built 55 [(1, .map m1), (2, .map m2)] = some #[.int .i64 0, .map m1, .map m2] := by kernel_rfl
theorem builtSea (b : Bool) (c m1 m2 : Value) : Tryz.prog.built 60 [(0, .bool b), (2, .agg #[c, m1, m2])] = some #[.bool b, .pointer none, c, m1, m2, .bool false, .bool false, .int .u64 0, .map none] := by kernel_rfl
theorem mkP (w : World) : Sem.run Tryz.prog (Instr.makeMap 52 none) w = .ok (.map (some w.heap.size)) (w.alloc (.map #[] 0)) := rfl
theorem mkO (w : World) : Sem.run Tryz.prog (Instr.makeMap 53 none) w = .ok (.map (some w.heap.size)) (w.alloc (.map #[] 0)) := rfl
theorem mkE (w : World) : Sem.run Tryz.prog (Instr.makeMap 58 none) w = .ok (.map (some w.heap.size)) (w.alloc (.map #[] 0)) := rfl

set_option maxHeartbeats 1000000 in
theorem oNewBook (w : World) : Calls Tryz.prog 18 #[] w fun e w' => ∃ m1 m2, e = .returned (.agg #[.int .i64 0, .map (some m1), .map (some m2)]) ∧ m1 ≠ m2 ∧ w.heap.size ≤ m1 ∧ w.heap.size ≤ m2 ∧ Mks kvP okKP w' m1 noneK ∧ Mks kvO okKO w' m2 noneK ∧ Below w.heap.size w w' := by
  have h1 := mkP
  have h2 := mkO
  have h3 := builtBook
  go_enter Tryz.func18, Tryz.ntmps18
  go_wp2_with fail
  refine bodyPost_ret (results_cell_row rfl _ _ w.heap.size 55 #[.int .i64 0, .map (some (w.heap.size + 1)), .map (some (w.heap.size + 1 + 1))] (0, 0) _ rfl (((Blk.new w _ _).old _).old _) Tryz.underlying55 rfl (by kernel_rfl)) rfl ?_
  refine ⟨_, _, rfl, by omega, by omega, by omega, ?_, ?_, ?_⟩
  · have h := Mks.new kvP okKP (w.alloc (.cells #[.int .i64 0, .map (some (w.heap.size + 1)), .map (some (w.heap.size + 1 + 1))] 55))
    have e : (w.alloc (.cells #[.int .i64 0, .map (some (w.heap.size + 1)), .map (some (w.heap.size + 1 + 1))] 55)).heap.size = w.heap.size + 1 := by simp
    rw [e] at h
    exact h.same (heap_alloc_old _ _ h.lt)
  · have h := Mks.new kvO okKO ((w.alloc (.cells #[.int .i64 0, .map (some (w.heap.size + 1)), .map (some (w.heap.size + 1 + 1))] 55)).alloc (.map #[] 0))
    have e : ((w.alloc (.cells #[.int .i64 0, .map (some (w.heap.size + 1)), .map (some (w.heap.size + 1 + 1))] 55)).alloc (.map #[] 0)).heap.size = w.heap.size + 1 + 1 := by simp
    rw [e] at h
    exact h
  · exact ((below_alloc w _).trans ((below_alloc _ _).mono (below_alloc w _).size)).trans ((below_alloc _ _).mono (by simp; omega))

/-- What a new sealer is. -/
def NewS (i : Bool) (w : World) (e : Ending) (w' : World) : Prop := ∃ r U M, e = .returned (.pointer (some ⟨r, 0, none⟩)) ∧ Se U w' r (SeaS.new i) M ∧ (∀ j, U j → w.heap.size ≤ j) ∧ Below w.heap.size w w'
theorem seC_new (i : Bool) (M : SeaM) : seC (SeaS.new i) M = [.bool i, .pointer M.tb, .int .i64 0, .map (some M.m1), .map (some M.m2), .bool false, .bool false, .int .u64 0, .map M.ks] := rfl

set_option maxHeartbeats 1000000 in
theorem oSNew (i : Bool) (w : World) : Calls Tryz.prog 5 #[.bool i] w (NewS i w) := by
  have h1 := mkE
  have h3 := builtSea
  cases i with
  | true =>
    go_enter Tryz.func5, Tryz.ntmps5
    go_wp2_with fail
    refine (oNewBook w).mono ?_
    rintro e w1 ⟨m1, m2, rfl, hne, hm1, hm2, k1, k2, hb1⟩
    go_wp2_with fail
    go_ret
    have hB : Blk ((w1.alloc (.cells #[.bool true, .pointer none, .int .i64 0, .map (some m1), .map (some m2), .bool false, .bool false, .int .u64 0, .map (some (w1.heap.size + 1))] 60)).alloc (.map #[] 0)) w1.heap.size (seC (SeaS.new true) ⟨m1, m2, none, some (w1.heap.size + 1)⟩) 60 := (Blk.new w1 _ _).old _
    have h3 := Mks.new kvP okKP (w1.alloc (.cells #[.bool true, .pointer none, .int .i64 0, .map (some m1), .map (some m2), .bool false, .bool false, .int .u64 0, .map (some (w1.heap.size + 1))] 60))
    have e : (w1.alloc (.cells #[.bool true, .pointer none, .int .i64 0, .map (some m1), .map (some m2), .bool false, .bool false, .int .u64 0, .map (some (w1.heap.size + 1))] 60)).heap.size = w1.heap.size + 1 := by simp
    rw [e] at h3
    have l1 := k1.lt
    have l2 := k2.lt
    have hs := hb1.size
    have q : Below w1.heap.size w1 ((w1.alloc (.cells #[.bool true, .pointer none, .int .i64 0, .map (some m1), .map (some m2), .bool false, .bool false, .int .u64 0, .map (some (w1.heap.size + 1))] 60)).alloc (.map #[] 0)) := (below_alloc w1 _).trans ((below_alloc _ _).mono (below_alloc w1 _).size)
    generalize (w1.alloc (.cells #[.bool true, .pointer none, .int .i64 0, .map (some m1), .map (some m2), .bool false, .bool false, .int .u64 0, .map (some (w1.heap.size + 1))] 60)).alloc (.map #[] 0) = w9 at *
    have l3 := h3.lt
    refine ⟨w1.heap.size, fun j => w.heap.size ≤ j ∧ j < w9.heap.size, ⟨m1, m2, none, some (w1.heap.size + 1)⟩, rfl, ⟨fun j hj => hj.2, ⟨hs, by omega⟩, hB, ⟨hm1, by dsimp only; omega⟩, ⟨hm2, by dsimp only; omega⟩, hne, k1.same (q.block _ l1), ⟨noneK, k2.same (q.block _ l2), txt_new true⟩, fun _ => ⟨w1.heap.size + 1, rfl, ⟨by omega, l3⟩, by dsimp only; omega, by dsimp only; omega, h3⟩, fun h => (by cases h), by decide⟩, fun j hj => hj.1, hb1.trans (q.mono hs)⟩
  | false =>
    go_enter Tryz.func5, Tryz.ntmps5
    go_wp2_with fail
    refine (oNewBook w).mono ?_
    rintro e w1 ⟨m1, m2, rfl, hne, hm1, hm2, k1, k2, hb1⟩
    go_wp2_with fail
    refine (oBuild _).mono ?_
    rintro e w2 ⟨g, rfl, hg, hT, hb2⟩
    have hlg : g < w2.heap.size := hT.lt
    have l1 := k1.lt
    have l2 := k2.lt
    have hs := hb1.size
    have hB1 := (Blk.new w1 #[.bool false, .pointer none, .int .i64 0, .map (some m1), .map (some m2), .bool false, .bool false, .int .u64 0, .map none] 60)
    have q1 : Below w1.heap.size w1 w2 := (below_alloc w1 _).trans (hb2.mono (below_alloc w1 _).size)
    have hB2 : Blk w2 w1.heap.size [.bool false, .pointer none, .int .i64 0, .map (some m1), .map (some m2), .bool false, .bool false, .int .u64 0, .map none] 60 := hB1.below hb2 hB1.lt
    have hgr : g ≠ w1.heap.size := fun e => by
      rw [e] at hT
      unfold Blk at hT hB2
      rw [hB2] at hT
      simp only [Option.some.injEq, Obj.cells.injEq] at hT
      exact absurd hT.2.1 (by decide)
    have hg1 : w1.heap.size ≤ g := Nat.le_trans (below_alloc w1 _).size hg
    have c1 : w2.cell? ⟨w1.heap.size, 1, none⟩ = some (.pointer none) := hB2.cell 1
    have f1 := hB2.free 1
    have lr := hB2.lt
    have hB3 : Hid (Blk (w2.setCell ⟨w1.heap.size, 1, none⟩ (.pointer (some ⟨g, 0, none⟩))) w1.heap.size (seC (SeaS.new false) ⟨m1, m2, some ⟨g, 0, none⟩, none⟩) 60) := hB2.setC 1 _
    have HT : Hid (Blk (w2.setCell ⟨w1.heap.size, 1, none⟩ (.pointer (some ⟨g, 0, none⟩))) g (cs tabT) 73) := hT.setO (p := ⟨w1.heap.size, 1, none⟩) hgr _
    have Q : Hid (Below w1.heap.size w1 (w2.setCell ⟨w1.heap.size, 1, none⟩ (.pointer (some ⟨g, 0, none⟩)))) := q1.setCell (p := ⟨w1.heap.size, 1, none⟩) (Nat.le_refl _) _
    have hz : (w2.setCell ⟨w1.heap.size, 1, none⟩ (.pointer (some ⟨g, 0, none⟩))).heap.size = w2.heap.size := by simp [World.setCell]
    clear hg hT hb2 hB1 q1 hB2
    go_wp2_with fail
    go_ret
    generalize w2.setCell ⟨w1.heap.size, 1, none⟩ (.pointer (some ⟨g, 0, none⟩)) = w9 at *
    exact ⟨w1.heap.size, fun j => w.heap.size ≤ j ∧ j < w9.heap.size, ⟨m1, m2, some ⟨g, 0, none⟩, none⟩, rfl, ⟨fun j hj => hj.2, ⟨hs, by omega⟩, hB3.out, ⟨hm1, by dsimp only; omega⟩, ⟨hm2, by dsimp only; omega⟩, hne, k1.same (Q.out.block _ l1), ⟨noneK, k2.same (Q.out.block _ l2), txt_new false⟩, fun h => (by cases h), fun _ => ⟨g, rfl, ⟨by omega, by omega⟩, HT.out⟩, by decide⟩, fun j hj => hj.1, hb1.trans (Q.out.mono hs)⟩

end Go.Proofs.YtfknplcnfpincaaGreat
