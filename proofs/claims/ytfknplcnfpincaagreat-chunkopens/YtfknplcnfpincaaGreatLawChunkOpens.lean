/-
  Proved: for any small number, any row of bytes, any sizes, any place and any turned bit the statement ChunkOpens of layer 13 answers true and leaves its arguments as they were. Conditions beside the statement's own: none.
-/
import Derived.Test.YtfknplcnfpincaaGreatRows
import Derived.Test.YtfknplcnfpincaaGreatG25
import Derived.Below
import Derived.Deep.DeepCutAuto
import Derived.Deep.CutBlock
import Derived.ChangeOld
namespace Go.Proofs.YtfknplcnfpincaaGreat
namespace ChunkOpensLaw
open Go.ChangeShapes Go.WideShapes Go.ChangeAt Go.RowKit
open Go.ChangeMaps (open_string shut_string)
set_option linter.unusedVariables false

theorem own : ownKnob Tryz.prog.godebug = none := by kernel_rfl
theorem laidOut : laidOutB Tryz.prog = true := by kernel_rfl

set_option maxRecDepth 100000 in
set_option maxHeartbeats 4000000 in
theorem walk (a0 : Int) (a1 : Option Addr) (len1 cap1 : Nat) (l1 : List UInt8) (a2 : Int) (a3 : Int) (a4 : Int) (a5 : Int) (w : World) (w0 : (Lit.int .u8 a0).wf = true) (w1 : Bs w a1 len1 cap1 l1) (w2 : (Lit.int .u16 a2).wf = true) (w3 : (Lit.int .i64 a3).wf = true) (w4 : (Lit.int .i64 a4).wf = true) (w5 : (Lit.int .u16 a5).wf = true) :
    Calls Tryz.prog 3 #[.int .u8 a0, .slice a1 len1 cap1, .int .u16 a2, .int .i64 a3, .int .i64 a4, .int .u16 a5] w fun e w' => e = .returned (.bool true) ∧ Below w.heap.size w w' := by
  have b0 := bounds_u8 w0
  have b2 := bounds_u16 w2
  have b3 := bounds_i64 w3
  have b4 := bounds_i64 w4
  have b5 := bounds_u16 w5
  obtain ⟨ke, rfl⟩ : ∃ F : Nat, a0 = F := ⟨a0.toNat, by omega⟩
  obtain ⟨sz, rfl⟩ : ∃ n : Nat, a2 = n := ⟨a2.toNat, by omega⟩
  obtain ⟨tu, rfl⟩ : ∃ n : Nat, a5 = n := ⟨a5.toNat, by omega⟩
  have hke : ke ≤ 255 := by omega
  have hsz : sz ≤ 65535 := by omega
  have htu : tu ≤ 65535 := by omega
  have HW : Hid (Bs w a1 len1 cap1 l1) := w1
  have hm1 := w1.max
  clear w0 w1 w2 w3 w4 w5 b0 b2 b5
  have HQUIT : Hid (∀ u, Calls Tryz.prog 4 #[] u fun e w' => e = .returned (.bool true) ∧ Below u.heap.size u w') := fun u => lWorks13 u
  by_cases c1 : (60 : Int) < (len1 : Int)
  · go_enter Tryz.func3, Tryz.ntmps3
    go_wp2_with fail
    refine (lWorks13 w).mono ?_
    rintro e wz ⟨rfl, hbz⟩
    go_wp2_with fail
    go_ret
    exact ⟨rfl, hbz⟩
  by_cases c2 : (1048576 : Int) < a3 ∧ a3 < 1099511627776
  · obtain ⟨c3, c4⟩ := c2
    go_enter Tryz.func3, Tryz.ntmps3
    go_wp2_with fail
    refine (lWorks13 w).mono ?_
    rintro e wz ⟨rfl, hbz⟩
    go_wp2_with fail
    go_ret
    exact ⟨rfl, hbz⟩
  have hl1 : len1 ≤ 60 := by omega
  obtain ⟨n, hn⟩ : ∃ n, n = sz % 1600 := ⟨_, rfl⟩
  have hnm : (sz : Int).tmod 1600 = (n : Int) := by rw [hn]; exact tmod_nat sz 1600
  have hnl : n ≤ 1599 := by omega
  clear hn
  have HLL : Hid ((longL l1 n).length = n) := longL_length _ _
  obtain ⟨t, ht⟩ : ∃ t, t = longL l1 n := ⟨_, rfl⟩
  have CL : Hid (∀ u, Bs u a1 len1 cap1 l1 → Calls Tryz.prog 6 #[.slice a1 len1 cap1, .int .i64 (n : Int)] u (Gives u t)) := fun u h => by rw [ht]; exact lLong u h n (by omega) (by omega)
  rw [← ht] at HLL
  have hb37 : Tryz.prog.built 37 [(0, .bool true)] = some #[.bool true, .slice none 0 0, .slice none 0 0, .int .u64 0, .bool false, .bool false] := by kernel_rfl
  clear ht
  have hcl := cnt_le (n := n) (by omega)
  have hcp := cnt_pos n
  have hC0 : ¬ (cnt n : Int) = 0 := by omega
  have HOK : Hid (chS (SeaS.new true) (keyC ke) l1 t (cnt n) (cnt n)).Ok := chS_ok (SeaS.Ok.new true) _ _ _ _ _ (by show 0 + 0 + _ + _ ≤ _; omega)
  have HID : Hid ((chS (SeaS.new true) (keyC ke) l1 t (cnt n) (cnt n)).ideal = true) := by show _ = _; rw [chS_ideal]; rfl
  have HBN : Hid ((chS (SeaS.new true) (keyC ke) l1 t (cnt n) (cnt n)).book.length ≤ 900) := by show _ ≤ _; rw [chS_len]; show 0 + _ ≤ _; omega
  have HML : Hid (∀ j, (chM (SeaS.new true) (keyC ke) l1 t (cnt n) j).length = plen n j + 16) := fun j => by rw [chM_length (keyC_length ke), HLL.out]
  have HBA : Hid (∀ j, j < cnt n → (chB (SeaS.new true) (keyC ke) l1 t (cnt n) (cnt n))[j]? = some (pad (chM (SeaS.new true) (keyC ke) l1 t (cnt n) j))) := fun j hj => chB_at hj
  have HBL : Hid ((chB (SeaS.new true) (keyC ke) l1 t (cnt n) (cnt n)).length = cnt n) := chB_length _ _ _ _ _ _
  have CSL : Hid (∀ (u : World) (U : Nat → Prop) (r : Nat) (M : SeaM) (ak aw at' : Option Addr) (ck cw ct : Nat), Se U u r (SeaS.new true) M → BA (fun j => ¬ U j) u ak 32 ck (keyC ke) → BA (fun j => ¬ U j) u aw len1 cw l1 → BA (fun j => ¬ U j) u at' n ct t → Calls Tryz.prog 7 #[.pointer (some ⟨r, 0, none⟩), .slice ak 32 ck, .slice aw len1 cw, .slice at' n ct] u (SealsC U r (chS (SeaS.new true) (keyC ke) l1 t (cnt n) (cnt n)) M (chB (SeaS.new true) (keyC ke) l1 t (cnt n) (cnt n)) u)) := fun u U r M ak aw at' ck cw ct h1 h2 h3 h4 => oSeal13 u h1 (SeaS.Ok.new true) h2 h3 h4 hl1 (by omega) (by decide)
  have HR : Hid (∀ (u : World) (A : Nat → Prop) (ak aw at' : Option Addr) (ck cw ct : Nat), (∀ j, u.heap.size ≤ j → A j) → BA A u ak 32 ck (keyC ke) → BA A u aw len1 cw l1 → BA A u at' n ct t → Calls Tryz.prog 9 #[.agg #[.bool true, .slice none 0 0, .slice none 0 0, .int .u64 0, .bool false, .bool false], .slice ak 32 ck, .slice aw len1 cw, .slice at' n ct] u (SealsRC A (chS (SeaS.new true) (keyC ke) l1 t (cnt n) (cnt n)) (chB (SeaS.new true) (keyC ke) l1 t (cnt n) (cnt n)) u)) := fun u A ak aw at' ck cw ct hA h1 h2 h3 => rSeal13 u (S := SeaS.new true) (d := ⟨none, 0, 0, none, 0, 0⟩) hA ⟨Sl.nil _ _ _ _, Sl.nil _ _ _ _⟩ h1 h2 h3 hl1 (by omega) (by decide) (by decide)
  have HPB : Hid (∀ j, (pad (chM (SeaS.new true) (keyC ke) l1 t (cnt n) j)).length = 512) := fun j => pad_length (by rw [HML.out]; have := plen_le n j; omega)
  obtain ⟨pb, hpb⟩ : ∃ pb : Nat → List UInt8, pb = fun j => pad (chM (SeaS.new true) (keyC ke) l1 t (cnt n) j) := ⟨_, rfl⟩
  have HPB' : Hid (∀ j, (pb j).length = 512) := by rw [hpb]; exact HPB
  obtain ⟨Z, hZ⟩ : ∃ Z, Z = chS (SeaS.new true) (keyC ke) l1 t (cnt n) (cnt n) := ⟨_, rfl⟩
  obtain ⟨LS, hLS⟩ : ∃ LS, LS = chB (SeaS.new true) (keyC ke) l1 t (cnt n) (cnt n) := ⟨_, rfl⟩
  have HBA' : Hid (∀ j, j < cnt n → LS[j]? = some (pb j)) := by rw [hpb, hLS]; exact HBA
  rw [← hZ] at HOK HID HBN CSL HR
  rw [← hLS] at HBL CSL HR
  clear hZ hLS hpb HPB HBA HML
  have CB : Hid (∀ bb : List UInt8, bb.length = 512 → ∃ (cd : Int) (tx : List UInt8), (∀ (u : World) (U : Nat → Prop) (r : Nat) (M : SeaM) (ak aw ab : Option Addr) (ck cw cb : Nat), Se U u r Z M → Bs u ak 32 ck (keyC ke) → Bs u aw len1 cw l1 → Bs u ab 512 cb bb → Calls Tryz.prog 11 #[.pointer (some ⟨r, 0, none⟩), .slice ak 32 ck, .slice aw len1 cw, .int .i64 a3, .int .i64 a4, .slice ab 512 cb] u (OpP U r Z M cd tx u)) ∧ (∀ (u : World) (d : Du) (ak aw ab : Option Addr) (ck cw cb : Nat), RS (fun _ => True) u Z d → Bs u ak 32 ck (keyC ke) → Bs u aw len1 cw l1 → Bs u ab 512 cb bb → Calls Tryz.prog 12 #[rsV Z d, .slice ak 32 ck, .slice aw len1 cw, .int .i64 a3, .int .i64 a4, .slice ab 512 cb] u (OpR cd tx u))) := fun bb hbb => both13 HID.out HBN.out hbb hl1 a3 a4 (by omega) (by omega) (by omega) (by omega)
  have CO21 : Hid (∀ (u : World) (r : Nat) (ak aw ab : Option Addr) (ck cw cb : Nat), r < u.heap.size → Calls Tryz.prog 11 #[.pointer (some ⟨r, 0, none⟩), .slice ak 32 ck, .slice aw len1 cw, .int .i64 (n : Int), .int .i64 0, .slice ab 511 cb] u fun e w' => e = .returned (.tuple #[.slice none 0 0, .int .i64 17]) ∧ u = w') := fun u r ak aw ab ck cw cb hr => oOpenS u n 0 (by omega) (by omega) hr (by omega) (by omega)
  have HB34 : Hid True := trivial
  have GO : Hid (a3 ≤ 1048576 ∨ 1099511627776 ≤ a3) := by show _ ∨ _; omega
  clear c2 b3 b4
  go_enter Tryz.func3, Tryz.ntmps3
  go_upto_region 1 with fail
  go_cut [41] (fun bv wx => bv = .bool false ∧ w = wx)
  case first =>
    rcases GO.out with c3 | c3
    · have c3' : ¬ (1048576 : Int) < a3 := by omega
      go_wp2_with fail
      go_meet
      case rel => exact ⟨rfl, rfl⟩
    · have c3' : (1048576 : Int) < a3 := by omega
      have c4' : ¬ a3 < 1099511627776 := by omega
      go_wp2_with fail
      go_meet
      case rel => exact ⟨rfl, rfl⟩
  case rest =>
  obtain ⟨rfl, hw0⟩ := hcut
  subst hw0
  clear GO
  go_wp2_with fail
  refine (oSNew true w).mono ?_
  rintro e v1 ⟨s, U, M, rfl, hs1, hU1, hb1⟩
  have T1 : Hid (StaS w v1 s U (SeaS.new true) M) := StaS.first (Below.refl _ w) hs1 hU1 hb1
  clear hs1 hU1 hb1
  go_wp2_with fail
  refine (CL.out v1 (HW.out.below T1.out.bel (Nat.le_refl _))).mono ?_
  rintro e v2 ⟨at', mt, ct, rfl, ot, hbt⟩
  have lmt := ot.toBs.len
  rw [HLL.out] at lmt
  subst lmt
  have T2 : Hid (StaS w v2 s U (SeaS.new true) M) := T1.out.grow hbt
  have TX2 : Hid (BA (fun j => ¬ U j) v2 at' n ct t) := ot.no T1.out.se.lt
  clear T1 ot hbt CL
  go_wp2_with fail
  refine (lKey13 v2 ke hke).mono ?_
  rintro e v3 ⟨g3, rfl, _, o3, hb3⟩
  have T3 : Hid (StaS w v3 s U (SeaS.new true) M) := T2.out.grow hb3
  have K3 : Hid (BA (fun j => ¬ U j) v3 (some ⟨g3, 0, none⟩) 32 32 (keyC ke)) := o3.no T2.out.se.lt
  have TX3 : Hid (BA (fun j => ¬ U j) v3 at' n ct t) := TX2.out.below' hb3
  clear T2 TX2 o3 hb3
  go_wp2_with fail
  refine (CSL.out v3 U s M _ _ _ _ _ _ T3.out.se K3.out (T3.out.arg HW.out) TX3.out).mono ?_
  rintro e v4 ⟨la, ln, lc, rfl, hBB, hse4, kp4⟩
  have lln := hBB.len
  rw [HBL.out] at lln
  subst lln
  have T4 : Hid (StaS w v4 s U Z M) := T3.out.after hse4 HOK.out kp4
  have TX4 : Hid (BA (fun j => ¬ U j) v4 at' n ct t) := TX3.out.kp kp4 fun j hj => hj
  have L4 : Hid (BB (fun j => ¬ U j) v4 la (cnt n) lc LS) := hBB.mono fun j _ hj hu => by have := T3.out.se.lt j hu; omega
  clear T3 K3 TX3 hBB hse4 kp4 CSL
  go_wp2_with (first
    | ((with_reducible refine at_bd 37 ?_); (refine bd 37 _ [(0, .bool true)] _ rfl hb37 ?_)))
  refine (lKey13 v4 ke hke).mono ?_
  rintro e v5 ⟨g5, rfl, _, o5, hb5⟩
  have T5 : Hid (StaS w v5 s U Z M) := T4.out.grow hb5
  have K5 : Hid (BA (fun j => ¬ U j) v5 (some ⟨g5, 0, none⟩) 32 32 (keyC ke)) := o5.no T4.out.se.lt
  have TX5 : Hid (BA (fun j => ¬ U j) v5 at' n ct t) := TX4.out.below' hb5
  have L5 : Hid (BB (fun j => ¬ U j) v5 la (cnt n) lc LS) := L4.out.grow hb5
  clear T4 TX4 L4 o5 hb5
  go_wp2_with fail
  refine (HR.out v5 (fun j => ¬ U j) _ _ _ _ _ _ (fun j hj hu => by have := T5.out.se.lt j hu; omega) K5.out (T5.out.arg HW.out) TX5.out).mono ?_
  rintro e v6 ⟨d6, ma, mn, mc, rfl, hRS6, hBB6, hb6⟩
  have T6 : Hid (StaS w v6 s U Z M) := T5.out.grow hb6
  have L6 : Hid (BB (fun j => ¬ U j) v6 la (cnt n) lc LS) := L5.out.grow hb6
  have M6 : Hid (Bss v6 ma mn mc LS) := hBB6.bss
  have R6 : Hid (RS (fun j => ¬ U j) v6 Z d6) := hRS6
  clear L5 T5 K5 TX5 hBB6 hRS6 hb6 HR
  rw [show rsV Z d6 = .agg #[.bool Z.ideal, .slice d6.ba d6.bn d6.bc, .slice d6.ca d6.cn d6.cc, .int .u64 (Z.count : Int), .bool Z.reused, .bool Z.forged] from rfl]
  have b7 : Hid (Below v6.heap.size v6 (v6.alloc (.cells #[.bool Z.ideal, .slice d6.ba d6.bn d6.bc, .slice d6.ca d6.cn d6.cc, .int .u64 (Z.count : Int), .bool Z.reused, .bool Z.forged] 37))) := below_alloc v6 _
  have B7 : Hid (Blk (v6.alloc (.cells #[.bool Z.ideal, .slice d6.ba d6.bn d6.bc, .slice d6.ca d6.cn d6.cc, .int .u64 (Z.count : Int), .bool Z.reused, .bool Z.forged] 37)) v6.heap.size (rsC Z d6) 37) := Blk.new v6 _ _
  have HX7 : Hid (¬ U v6.heap.size) := fun hu => by have := T6.out.se.lt _ hu; omega
  go_wp2_with fail
  obtain ⟨x18, hx18⟩ : ∃ x, x = v6.heap.size := ⟨_, rfl⟩
  rw [← hx18] at B7 HX7 ⊢
  clear hx18
  generalize v6.alloc (.cells #[.bool Z.ideal, .slice d6.ba d6.bn d6.bc, .slice d6.ca d6.cn d6.cc, .int .u64 (Z.count : Int), .bool Z.reused, .bool Z.forged] 37) = v7 at *
  have CSA : Hid (Calls Tryz.prog 10 #[.slice la (cnt n) lc, .slice ma mn mc] v7 fun e w' => e = .returned (.bool true) ∧ ∃ k, w' = v7.drewN k) := by
    have := rSameAll v7 (L6.out.bss.below b7.out (Nat.le_refl _)) (M6.out.below b7.out (Nat.le_refl _))
    rwa [decide_eq_true rfl] at this
  refine CSA.out.mono ?_
  rintro e v8 ⟨rfl, kk, hv8⟩
  have b8 : Below v6.heap.size v6 v8 := by rw [hv8]; exact below_drN b7.out kk
  have b78 : Below v7.heap.size v7 v8 := by rw [hv8]; exact below_drewN' v7 kk
  have T8 : Hid (StaS w v8 s U Z M) := T6.out.grow b8
  have L8 : Hid (BB (fun j => ¬ U j) v8 la (cnt n) lc LS) := L6.out.grow b8
  have R8 : Hid (RS (fun j => ¬ U j) v8 Z d6) := R6.out.grow b8
  have B8 : Hid (Blk v8 x18 (rsC Z d6) 37) := B7.out.below b78 B7.out.lt
  clear hv8 b8 b78 CSA b7 T6 L6 M6 R6 B7
  go_upto_region 13 with fail
  go_cut [92] (fun bv wx => CutB (0 < a4 ∧ a4 < (cnt n : Int)) v8 bv wx)
  case first =>
    by_cases k1 : 0 < a4
    · by_cases k2 : a4 < (cnt n : Int)
      · go_wp2_with fail
        go_meet
        case rel => exact ⟨true, rfl, fun _ => ⟨k1, k2⟩, rfl⟩
      · go_wp2_with fail
        go_meet
        case rel => exact ⟨false, rfl, fun h => (by cases h), rfl⟩
    · go_wp2_with fail
      go_meet
      case rel => exact ⟨false, rfl, fun h => (by cases h), rfl⟩
  case rest =>
  obtain ⟨cb92, rfl, h92, hw92⟩ := hcut
  subst hw92
  have H92 : Hid (cb92 = true → 0 < a4 ∧ a4 < (cnt n : Int)) := h92
  clear h92
  go_upto_if 92 with fail
  go_cut [21] (fun v wx => ∃ q : Nat, q < cnt n ∧ v = .int .i64 (q : Int) ∧ v8 = wx)
  case first =>
    cases cb92 with
    | true =>
      have H93 : Hid (0 < a4 ∧ a4 < (cnt n : Int)) := H92.out rfl
      clear H92
      go_wp2_with fail
      go_meet
      case rel => exact ⟨a4.toNat, by have := H93.out; omega, by rw [show ((a4.toNat : Nat) : Int) = a4 from by have := H93.out; omega], rfl⟩
    | false =>
      go_wp2_with fail
      go_meet
      case rel => exact ⟨0, by omega, rfl, rfl⟩
  case rest =>
  obtain ⟨q, hqC, rfl, hw9⟩ := hcut
  subst hw9
  obtain ⟨lb, lo', p1, m1, q1, hla, hlb, hAb, hcell, hB1⟩ := L8.out.at2 (HBA'.out q hqC)
  subst hla
  have lm1 := hB1.1.len
  rw [HPB'.out] at lm1
  subst lm1
  have hq' : (q : Int) < (cnt n : Int) := by omega
  have cel : (v8.alloc (.cells #[] 5)).cell? ⟨lb, lo' + q, none⟩ = some (.slice p1 512 q1) := by
    rw [World.cell?_of_block (w := v8) (heap_alloc_old v8 _ hlb)]
    exact hcell
  have lce : lb < (v8.alloc (.cells #[] 5)).heap.size := lt_of_cell cel
  have HE9 : Hid (Own (v8.alloc (.cells #[] 5)) v8.heap.size (.slice (some ⟨v8.heap.size, 0, none⟩) 0 0) []) := Own.empty13 v8
  have HP9 : Hid (Bs (v8.alloc (.cells #[] 5)) p1 512 q1 (pb q)) := hB1.1.below (below_alloc v8 _) (Nat.le_refl _)
  have HLN : Hid (([] : List UInt8).length + (pb q).length ≤ 1000000000) := by show _ ≤ _; rw [HPB'.out]; simp
  have HS9 : Hid (v8.heap.size ≤ (v8.alloc (.cells #[] 5)).heap.size) := by show _ ≤ _; simp
  clear hB1 hcell hlb hAb L8
  go_upto_region 16 with (at_builtin; refine wpList_app (v8.alloc (.cells #[] 5)) rfl (.tmp 94) (.tmp 98) rfl v8.heap.size _ [] rfl HE9.out p1 512 q1 (pb q) rfl HP9.out HLN.out HS9.out ?_; intro bv v10 o10 b10)
  rw [List.nil_append] at o10
  obtain ⟨pa, mm, cc, e2, hsh⟩ := o10.shape
  subst e2
  have hmm : mm = 512 := by rw [← o10.toBs.len, HPB'.out]
  subst hmm
  obtain ⟨g, rfl⟩ : ∃ g, pa = some ⟨g, 0, none⟩ := by
    rcases hsh with e | h
    · subst e
      have t1 := o10.toBs.2.2.2.1 rfl
      have t2 := o10.toBs.cap
      omega
    · exact h
  have hg : v8.heap.size ≤ g := (World.ownsRow.lt o10 g rfl).1
  have Q10 : Hid (Below v8.heap.size v8 v10) := (below_alloc v8 _).trans b10
  have hl10 : (pb q).length = 512 := HPB'.out q
  clear hsh b10 cel lce HE9 HP9 HLN HS9
  go_cut [106] (fun bv wx => CutB (0 < tu) v10 bv wx)
  case first =>
    by_cases k1 : 0 < tu
    · have k1' : (0 : Int) < (tu : Int) := by omega
      go_wp2_with fail
      go_meet
      case rel => exact ⟨true, rfl, fun _ => k1, rfl⟩
    · have k1' : ¬ (0 : Int) < (tu : Int) := by omega
      go_wp2_with fail
      go_meet
      case rel => exact ⟨false, rfl, fun h => (by cases h), rfl⟩
  case rest =>
  obtain ⟨cb106, rfl, h106, hw106⟩ := hcut
  subst hw106
  have H106 : Hid (cb106 = true → 0 < tu) := h106
  clear h106
  go_upto_if 106 with fail
  go_cut [23] (fun _ wx => ∃ bb : List UInt8, Hid (bb.length = 512 ∧ Own wx v8.heap.size (.slice (some ⟨g, 0, none⟩) 512 cc) bb ∧ Below v8.heap.size v8 wx))
  case first =>
    cases cb106 with
    | true =>
      have k1 : 0 < tu := H106.out rfl
      have k1' : (0 : Int) < (tu : Int) := by omega
      obtain ⟨kk, hkk⟩ : ∃ kk : Nat, kk = tu % 4096 := ⟨_, rfl⟩
      have n1 : (tu : Int).tmod 4096 = (kk : Int) := by rw [hkk]; exact tmod_nat tu 4096
      have n2 : (tu : Int) % 4096 = (kk : Int) := by omega
      have n3 : IntKind.i64.wrap (tu : Int) = (tu : Int) := by rw [IntKind.wrap_i64]; omega
      have n4 : IntKind.i64.wrap (kk : Int) = (kk : Int) := by rw [IntKind.wrap_i64]; omega
      have hkl : kk < 4096 := by omega
      obtain ⟨qq, hq⟩ : ∃ q, q = kk / 8 := ⟨_, rfl⟩
      obtain ⟨ss, hs⟩ : ∃ s, s = kk % 8 := ⟨_, rfl⟩
      have hqm : qq < 512 := by omega
      have hs8 : ss < 8 := by omega
      have q5 : (kk : Int).tdiv 8 = (qq : Int) := by rw [quo8, hq]
      have q6 : (kk : Int) / 8 = (qq : Int) := by omega
      have q7 : (kk : Int).tmod 8 = (ss : Int) := by rw [rem8, hs]
      have q8 : (kk : Int) % 8 = (ss : Int) := by omega
      have q9 : IntKind.i64.wrap (ss : Int) = (ss : Int) := by rw [IntKind.wrap_i64]; omega
      have qa : IntKind.i64.wrap (qq : Int) = (qq : Int) := by rw [IntKind.wrap_i64]; omega
      have qb : (0 : Int) ≤ (ss : Int) := by omega
      have qc : (0 : Int) ≤ (qq : Int) := by omega
      have qd : (qq : Int) < 512 := by omega
      have p1' := pow_byte (s := ss) hs8
      have p2 := shl_one (s := ss) hs8
      have p3 : (2 : Int) ^ ss % 256 = ((1 <<< UInt8.ofNat ss : UInt8).toNat : Int) := by rw [Int.one_mul] at p2; exact p2
      generalize (1 <<< UInt8.ofNat ss : UInt8) = z at *
      have c1' : v10.cell? ⟨g, qq, none⟩ = some (.int .u8 (((pb q).getD qq 0).toNat : Int)) := by
        obtain ⟨_, _, ex, hc⟩ := o10.toBs.2.2.2.2 qq hqm
        simp only [Option.some.injEq, Addr.mk.injEq, and_true] at ex
        obtain ⟨rfl, rfl⟩ := ex
        rw [Nat.zero_add] at hc
        exact hc
      have f1 := o10.free hl10 qq
      have lg : g < v10.heap.size := lt_of_cell c1'
      have o5 := o10.set hl10 qq ((pb q).getD qq 0 ^^^ z)
      have px := xor_u8 ((pb q).getD qq 0) z
      generalize (pb q).getD qq 0 ^^^ z = yz at *
      generalize (pb q).getD qq 0 = y at *
      have HO : Hid (∃ bb : List UInt8, bb.length = 512 ∧ Own (v10.setCell ⟨g, qq, none⟩ (.int .u8 (yz.toNat : Int))) v8.heap.size (.slice (some ⟨g, 0, none⟩) 512 cc) bb ∧ Below v8.heap.size v8 (v10.setCell ⟨g, qq, none⟩ (.int .u8 (yz.toNat : Int)))) := ⟨_, by rw [List.length_set, hl10], o5, Q10.out.setCell (p := ⟨g, qq, none⟩) hg _⟩
      clear hkk hq hs hkl o5 o10
      go_wp2_with fail
      go_region
      all_goals go_wp2_with fail
      all_goals go_meet
      all_goals case rel =>
        obtain ⟨bb, h1, h2, h3⟩ := HO.out
        exact ⟨bb, h1, h2.below (Below.refl _ _).drew (Nat.le_refl _), h3.drew⟩
    | false =>
      have HO : Hid (Own v10 v8.heap.size (.slice (some ⟨g, 0, none⟩) 512 cc) (pb q)) := o10
      clear o10
      go_wp2_with fail
      go_meet
      case rel => exact ⟨pb q, hl10, HO.out, Q10.out⟩
  case rest =>
  obtain ⟨bb, HBB⟩ := hcut
  obtain ⟨cd, tx, hPO, hRO⟩ := CB.out bb HBB.out.1
  have CP : Hid (∀ (u : World) (U : Nat → Prop) (r : Nat) (M : SeaM) (ak aw ab : Option Addr) (ck cw cb : Nat), Se U u r Z M → Bs u ak 32 ck (keyC ke) → Bs u aw len1 cw l1 → Bs u ab 512 cb bb → Calls Tryz.prog 11 #[.pointer (some ⟨r, 0, none⟩), .slice ak 32 ck, .slice aw len1 cw, .int .i64 a3, .int .i64 a4, .slice ab 512 cb] u (OpP U r Z M cd tx u)) := hPO
  have CRO : Hid (∀ (u : World) (d : Du) (ak aw ab : Option Addr) (ck cw cb : Nat), RS (fun _ => True) u Z d → Bs u ak 32 ck (keyC ke) → Bs u aw len1 cw l1 → Bs u ab 512 cb bb → Calls Tryz.prog 12 #[rsV Z d, .slice ak 32 ck, .slice aw len1 cw, .int .i64 a3, .int .i64 a4, .slice ab 512 cb] u (OpR cd tx u)) := hRO
  have T11 : Hid (StaS w wc s U Z M) := T8.out.grow HBB.out.2.2
  have R11 : Hid (RS (fun j => ¬ U j) wc Z d6) := R8.out.grow HBB.out.2.2
  have B11 : Hid (Blk wc x18 (rsC Z d6) 37) := B8.out.below HBB.out.2.2 B8.out.lt
  have O11 : Hid (Own wc v8.heap.size (.slice (some ⟨g, 0, none⟩) 512 cc) bb) := HBB.out.2.1
  have HUL : Hid (∀ j, U j → j < v8.heap.size) := T8.out.se.lt
  clear hPO hRO CB HBB T8 R8 B8 Q10 o10 HBA' HPB' hl10
  rename World => v11
  go_wp2_with fail
  refine (lKey13 v11 ke hke).mono ?_
  rintro e v12 ⟨g12, rfl, _, o12, hb12⟩
  have T12 : Hid (StaS w v12 s U Z M) := T11.out.grow hb12
  have R12 : Hid (RS (fun j => ¬ U j) v12 Z d6) := R11.out.grow hb12
  have B12 : Hid (Blk v12 x18 (rsC Z d6) 37) := B11.out.below hb12 B11.out.lt
  have O12 : Hid (Own v12 v8.heap.size (.slice (some ⟨g, 0, none⟩) 512 cc) bb) := O11.out.below hb12 (Nat.le_refl _)
  have K12 : Hid (Bs v12 (some ⟨g12, 0, none⟩) 32 32 (keyC ke)) := o12.toBs
  clear T11 R11 B11 O11 o12 hb12
  go_wp2_with fail
  refine (CP.out v12 U s M _ _ _ _ _ _ T12.out.se K12.out (HW.out.below T12.out.bel (Nat.le_refl _)) O12.out.toBs).mono ?_
  rintro e v13 ⟨xa, xm, xc, rfl, hX13, hse13, kp13⟩
  have T13 : Hid (StaS w v13 s U Z M) := T12.out.after hse13 HOK.out kp13
  have R13 : Hid (RS (fun _ => True) v13 Z d6) := (R12.out.kp kp13 fun j hj => hj).mono fun _ _ _ => trivial
  have B13 : Hid (Blk v13 x18 (rsC Z d6) 37) := kp13.blk B12.out HX7.out
  have O13 : Hid (Bs v13 (some ⟨g, 0, none⟩) 512 cc bb) := (O12.out.kp kp13 HUL.out).toBs
  have X13 : Hid (Bs v13 xa xm xc tx) := hX13
  have Q13 : Hid (Below w.heap.size w v13) := T13.out.bel
  have LS13 : Hid (s < v13.heap.size) := T13.out.se.blk.lt
  clear T12 R12 B12 O12 K12 hX13 hse13 kp13 CP T13 HUL
  go_upto_region 20 with fail
  go_cut [27, 28] (fun yv gv wx => ∃ (ya : Option Addr) (ym yc : Nat), yv = .slice ya ym yc ∧ gv = .int .i64 cd ∧ Hid (Bs wx ya ym yc tx ∧ Bs wx xa xm xc tx ∧ Bs wx (some ⟨g, 0, none⟩) 512 cc bb ∧ Below v13.heap.size v13 wx))
  case first =>
    refine regionG (S := Grows v13) (by kernel_rfl) (Below.refl _ v13).drew ?_
    refine takeG 0 (some 138) (rsV Z d6) rfl rfl (by kernel_rfl) (by kernel_rfl) (by kernel_rfl) (fun _ _ _ h => h) (ans_row 37 (.tmp 18) _ 6 rfl (by rfl) x18 0 rfl (rsC Z d6) (fun u h => (B13.out.below h B13.out.lt).whole) Tryz.underlying37 rfl rfl sizeRS) ?_
    simp only [Act.put, List.setIfInBounds_toArray, List.set_cons_zero, List.set_cons_succ]
    refine takeG 1 (some 139) (.int .u8 (ke : Int)) rfl rfl (by kernel_rfl) (by kernel_rfl) (by kernel_rfl) (fun _ _ _ h => h) (ans_plain (by rfl) (fun w _ => rfl)) ?_
    simp only [Act.put, List.setIfInBounds_toArray, List.set_cons_zero, List.set_cons_succ]
    refine takeG 3 (some 141) (.slice a1 len1 cap1) rfl rfl (by kernel_rfl) (by kernel_rfl) (by kernel_rfl) (fun _ _ _ h => h) (ans_plain (by rfl) (fun w _ => rfl)) ?_
    simp only [Act.put, List.setIfInBounds_toArray, List.set_cons_zero, List.set_cons_succ]
    refine takeG 4 (some 142) (.int .i64 a3) rfl rfl (by kernel_rfl) (by kernel_rfl) (by kernel_rfl) (fun _ _ _ h => h) (ans_plain (by rfl) (fun w _ => rfl)) ?_
    simp only [Act.put, List.setIfInBounds_toArray, List.set_cons_zero, List.set_cons_succ]
    refine takeG 5 (some 143) (.int .i64 a4) rfl rfl (by kernel_rfl) (by kernel_rfl) (by kernel_rfl) (fun _ _ _ h => h) (ans_plain (by rfl) (fun w _ => rfl)) ?_
    simp only [Act.put, List.setIfInBounds_toArray, List.set_cons_zero, List.set_cons_succ]
    refine takeG 6 (some 144) (.slice (some ⟨g, 0, none⟩) 512 cc) rfl rfl (by kernel_rfl) (by kernel_rfl) (by kernel_rfl) (fun _ _ _ h => h) (ans_plain (by rfl) (fun w _ => rfl)) ?_
    simp only [Act.put, List.setIfInBounds_toArray, List.set_cons_zero, List.set_cons_succ]
    refine fork2G 2 12 (by kernel_rfl) (fun v1 hg1 hs1 => ?_) (fun v2 hg1 hs1 => ?_)
    · refine opCallW 2 (some 140) 8 #[.tmp 139] #[5] #[.int .u8 (ke : Int)] rfl rfl rfl (by rfl) (by rfl) Tryz.call8 ?_
      refine (lKey13 v1 ke hke).mono ?_
      rintro e u5 ⟨gk, rfl, _, ok, hbk⟩
      have KB := ok.toBs
      refine ⟨_, rfl, Grows.trans hs1 hbk, ?_⟩
      simp only [Act.put, List.setIfInBounds_toArray, List.set_cons_zero, List.set_cons_succ]
      refine fork2G 7 12 (by kernel_rfl) (fun v3 hg2 hs2 => ?_) (fun v4 hg2 hs2 => ?_)
      · have KB := KB.below hg2 (Nat.le_refl _)
        refine opCallW 7 (some 145) 12 #[.tmp 138, .tmp 140, .tmp 141, .tmp 142, .tmp 143, .tmp 144] #[37, 22, 22, 3, 3, 22] #[rsV Z d6, .slice (some ⟨gk, 0, none⟩) 32 32, .slice a1 len1 cap1, .int .i64 a3, .int .i64 a4, .slice (some ⟨g, 0, none⟩) 512 cc] rfl rfl rfl (by rfl) (by rfl) Tryz.call12 ?_
        refine (CRO.out v3 d6 _ _ _ _ _ _ (R13.out.grow hs2) KB (HW.out.below (Q13.out.trans (Below.mono hs2 Q13.out.size)) (Nat.le_refl _)) (O13.out.below hs2 (Nat.le_refl _))).mono ?_
        rintro e u6 ⟨S2, d2, ya, ym, yc, rfl, hY, hb2⟩
        have sY : Grows v13 u6 := Grows.trans hs2 hb2
        refine ⟨_, rfl, sY, ?_⟩
        simp only [Act.put, List.setIfInBounds_toArray, List.set_cons_zero, List.set_cons_succ]
        refine takeG 8 (some 137) (.tuple #[rsV S2 d2, .slice ya ym yc, .int .i64 cd]) rfl rfl (by kernel_rfl) (by kernel_rfl) (by kernel_rfl) (fun _ _ _ h => h) (ans_plain (by rfl) (fun w _ => rfl)) ?_
        simp only [Act.put, List.setIfInBounds_toArray, List.set_cons_zero, List.set_cons_succ]
        refine takeG 9 (some 146) (rsV S2 d2) rfl rfl (by kernel_rfl) (by kernel_rfl) (by kernel_rfl) (fun _ _ _ h => h) (ans_plain (by rfl) (fun w _ => by unfold execOp; go_simp)) ?_
        simp only [Act.put, List.setIfInBounds_toArray, List.set_cons_zero, List.set_cons_succ]
        refine takeG 10 (some 147) (.slice ya ym yc) rfl rfl (by kernel_rfl) (by kernel_rfl) (by kernel_rfl) (fun _ _ _ h => h) (ans_plain (by rfl) (fun w _ => by unfold execOp; go_simp)) ?_
        simp only [Act.put, List.setIfInBounds_toArray, List.set_cons_zero, List.set_cons_succ]
        refine takeG 11 (some 148) (.int .i64 cd) rfl rfl (by kernel_rfl) (by kernel_rfl) (by kernel_rfl) (fun _ _ _ h => h) (ans_plain (by rfl) (fun w _ => by unfold execOp; go_simp)) ?_
        simp only [Act.put, List.setIfInBounds_toArray, List.set_cons_zero, List.set_cons_succ]
        refine alloc1 (fun _ _ h h2 => Grows.trans h h2) 12 26 ⟨_, rfl, rfl, rfl, fun ρ w => rfl⟩ (by kernel_rfl) fun gx v7 hga hsa Bg hgx => ?_
        have hY := hY.below hga (Nat.le_refl _)
        have hgw : v13.heap.size ≤ gx := Nat.le_trans (Below.size sY) hgx
        simp only [Act.put, List.setIfInBounds_toArray, List.set_cons_zero, List.set_cons_succ]
        refine oneG 13 (by kernel_rfl) fun v8 hg3 hs3 => ?_
        have hY := hY.below hg3 (Nat.le_refl _)
        have Bg := Bg.below hg3 Bg.lt
        refine opStR 13 37 (.tmp 26) (.tmp 146) 6 rfl rfl rfl rfl gx _ (rsC S2 d2) 37 Bg rfl rfl (rsC_one _ _) sizeRS rfl rfl fun v9 b9 k9 => ?_
        have hs9 : Grows v13 v9 := Below.trans hs3 (k9.below (B := v13.heap.size) (Below.size hs3) (fun i hi e => by omega))
        have hY := hY.kpCells k9 Bg (fun i v hv x => zeroNo8 i v hv x)
        refine ⟨hs9, ?_⟩
        refine takeG 14 (some 27) (.slice ya ym yc) rfl rfl (by kernel_rfl) (by kernel_rfl) (by kernel_rfl) (fun _ _ _ h => h) (ans_plain (by rfl) (fun w _ => rfl)) ?_
        simp only [Act.put, List.setIfInBounds_toArray, List.set_cons_zero, List.set_cons_succ]
        refine takeG 15 (some 28) (.int .i64 cd) rfl rfl (by kernel_rfl) (by kernel_rfl) (by kernel_rfl) (fun _ _ _ h => h) (ans_plain (by rfl) (fun w _ => rfl)) ?_
        simp only [Act.put, List.setIfInBounds_toArray, List.set_cons_zero, List.set_cons_succ]
        refine doneG (by kernel_rfl) fun v10 hgz hsz => ?_
        have M9 : Hid (Bs v10 ya ym yc tx ∧ Bs v10 xa xm xc tx ∧ Bs v10 (some ⟨g, 0, none⟩) 512 cc bb ∧ Below v13.heap.size v13 v10) := ⟨hY.below hgz (Nat.le_refl _), X13.out.below hsz (Nat.le_refl _), O13.out.below hsz (Nat.le_refl _), hsz⟩
        clear hY b9 k9 hs9 hgz hsz
        go_wp2_with fail
        go_meet
        case rel => exact ⟨ya, ym, yc, rfl, rfl, M9⟩
      · have KB := KB.below hg2 (Nat.le_refl _)
        refine opMake (fun _ _ h h2 => Grows.trans h h2) ⟨_, rfl, rfl, rfl, fun ρ w => rfl⟩ hs2 fun gx v11 hga hsa Bg hgx => ?_
        have KB := KB.below hga (Nat.le_refl _)
        have hgw : v13.heap.size ≤ gx := Nat.le_trans (Below.size hs2) hgx
        simp only [Act.put, List.setIfInBounds_toArray, List.set_cons_zero, List.set_cons_succ]
        refine callG 7 (some 145) 12 #[.tmp 138, .tmp 140, .tmp 141, .tmp 142, .tmp 143, .tmp 144] #[37, 22, 22, 3, 3, 22] #[rsV Z d6, .slice (some ⟨gk, 0, none⟩) 32 32, .slice a1 len1 cap1, .int .i64 a3, .int .i64 a4, .slice (some ⟨g, 0, none⟩) 512 cc] rfl rfl rfl (by rfl) (by rfl) (by kernel_rfl) Tryz.call12 fun v12 hg4 hs4 => ?_
        have KB := KB.below hg4 (Nat.le_refl _)
        have Bg := Bg.below hg4 Bg.lt
        refine (CRO.out v12 d6 _ _ _ _ _ _ (R13.out.grow hs4) KB (HW.out.below (Q13.out.trans (Below.mono hs4 Q13.out.size)) (Nat.le_refl _)) (O13.out.below hs4 (Nat.le_refl _))).mono ?_
        rintro e u13 ⟨S2, d2, ya, ym, yc, rfl, hY, hb2⟩
        have Bg := Bg.below hb2 Bg.lt
        have sY : Grows v13 u13 := Grows.trans hs4 hb2
        refine ⟨_, rfl, sY, ?_⟩
        simp only [Act.put, List.setIfInBounds_toArray, List.set_cons_zero, List.set_cons_succ]
        refine takeG 8 (some 137) (.tuple #[rsV S2 d2, .slice ya ym yc, .int .i64 cd]) rfl rfl (by kernel_rfl) (by kernel_rfl) (by kernel_rfl) (fun _ _ _ h => h) (ans_plain (by rfl) (fun w _ => rfl)) ?_
        simp only [Act.put, List.setIfInBounds_toArray, List.set_cons_zero, List.set_cons_succ]
        refine takeG 9 (some 146) (rsV S2 d2) rfl rfl (by kernel_rfl) (by kernel_rfl) (by kernel_rfl) (fun _ _ _ h => h) (ans_plain (by rfl) (fun w _ => by unfold execOp; go_simp)) ?_
        simp only [Act.put, List.setIfInBounds_toArray, List.set_cons_zero, List.set_cons_succ]
        refine takeG 10 (some 147) (.slice ya ym yc) rfl rfl (by kernel_rfl) (by kernel_rfl) (by kernel_rfl) (fun _ _ _ h => h) (ans_plain (by rfl) (fun w _ => by unfold execOp; go_simp)) ?_
        simp only [Act.put, List.setIfInBounds_toArray, List.set_cons_zero, List.set_cons_succ]
        refine takeG 11 (some 148) (.int .i64 cd) rfl rfl (by kernel_rfl) (by kernel_rfl) (by kernel_rfl) (fun _ _ _ h => h) (ans_plain (by rfl) (fun w _ => by unfold execOp; go_simp)) ?_
        simp only [Act.put, List.setIfInBounds_toArray, List.set_cons_zero, List.set_cons_succ]
        refine oneG 13 (by kernel_rfl) fun v14 hg3 hs3 => ?_
        have hY := hY.below hg3 (Nat.le_refl _)
        have Bg := Bg.below hg3 Bg.lt
        refine opStR 13 37 (.tmp 26) (.tmp 146) 6 rfl rfl rfl rfl gx _ (rsC S2 d2) 37 Bg rfl rfl (rsC_one _ _) sizeRS rfl rfl fun v15 b9 k9 => ?_
        have hs9 : Grows v13 v15 := Below.trans hs3 (k9.below (B := v13.heap.size) (Below.size hs3) (fun i hi e => by omega))
        have hY := hY.kpCells k9 Bg (fun i v hv x => zeroNo8 i v hv x)
        refine ⟨hs9, ?_⟩
        refine takeG 14 (some 27) (.slice ya ym yc) rfl rfl (by kernel_rfl) (by kernel_rfl) (by kernel_rfl) (fun _ _ _ h => h) (ans_plain (by rfl) (fun w _ => rfl)) ?_
        simp only [Act.put, List.setIfInBounds_toArray, List.set_cons_zero, List.set_cons_succ]
        refine takeG 15 (some 28) (.int .i64 cd) rfl rfl (by kernel_rfl) (by kernel_rfl) (by kernel_rfl) (fun _ _ _ h => h) (ans_plain (by rfl) (fun w _ => rfl)) ?_
        simp only [Act.put, List.setIfInBounds_toArray, List.set_cons_zero, List.set_cons_succ]
        refine doneG (by kernel_rfl) fun v16 hgz hsz => ?_
        have M9 : Hid (Bs v16 ya ym yc tx ∧ Bs v16 xa xm xc tx ∧ Bs v16 (some ⟨g, 0, none⟩) 512 cc bb ∧ Below v13.heap.size v13 v16) := ⟨hY.below hgz (Nat.le_refl _), X13.out.below hsz (Nat.le_refl _), O13.out.below hsz (Nat.le_refl _), hsz⟩
        clear hY b9 k9 hs9 hgz hsz
        go_wp2_with fail
        go_meet
        case rel => exact ⟨ya, ym, yc, rfl, rfl, M9⟩
    · refine opMake (fun _ _ h h2 => Grows.trans h h2) ⟨_, rfl, rfl, rfl, fun ρ w => rfl⟩ hs1 fun gx v17 hga hsa Bg hgx => ?_
      have hgw : v13.heap.size ≤ gx := Nat.le_trans (Below.size hs1) hgx
      simp only [Act.put, List.setIfInBounds_toArray, List.set_cons_zero, List.set_cons_succ]
      refine callG 2 (some 140) 8 #[.tmp 139] #[5] #[.int .u8 (ke : Int)] rfl rfl rfl (by rfl) (by rfl) (by kernel_rfl) Tryz.call8 fun v18 hg2 hs2 => ?_
      have Bg := Bg.below hg2 Bg.lt
      refine (lKey13 v18 ke hke).mono ?_
      rintro e u20 ⟨gk, rfl, _, ok, hbk⟩
      have KB := ok.toBs
      have Bg := Bg.below hbk Bg.lt
      refine ⟨_, rfl, Grows.trans hs2 hbk, ?_⟩
      simp only [Act.put, List.setIfInBounds_toArray, List.set_cons_zero, List.set_cons_succ]
      refine callG 7 (some 145) 12 #[.tmp 138, .tmp 140, .tmp 141, .tmp 142, .tmp 143, .tmp 144] #[37, 22, 22, 3, 3, 22] #[rsV Z d6, .slice (some ⟨gk, 0, none⟩) 32 32, .slice a1 len1 cap1, .int .i64 a3, .int .i64 a4, .slice (some ⟨g, 0, none⟩) 512 cc] rfl rfl rfl (by rfl) (by rfl) (by kernel_rfl) Tryz.call12 fun v19 hg4 hs4 => ?_
      have KB := KB.below hg4 (Nat.le_refl _)
      have Bg := Bg.below hg4 Bg.lt
      refine (CRO.out v19 d6 _ _ _ _ _ _ (R13.out.grow hs4) KB (HW.out.below (Q13.out.trans (Below.mono hs4 Q13.out.size)) (Nat.le_refl _)) (O13.out.below hs4 (Nat.le_refl _))).mono ?_
      rintro e u21 ⟨S2, d2, ya, ym, yc, rfl, hY, hb2⟩
      have Bg := Bg.below hb2 Bg.lt
      have sY : Grows v13 u21 := Grows.trans hs4 hb2
      refine ⟨_, rfl, sY, ?_⟩
      simp only [Act.put, List.setIfInBounds_toArray, List.set_cons_zero, List.set_cons_succ]
      refine takeG 8 (some 137) (.tuple #[rsV S2 d2, .slice ya ym yc, .int .i64 cd]) rfl rfl (by kernel_rfl) (by kernel_rfl) (by kernel_rfl) (fun _ _ _ h => h) (ans_plain (by rfl) (fun w _ => rfl)) ?_
      simp only [Act.put, List.setIfInBounds_toArray, List.set_cons_zero, List.set_cons_succ]
      refine takeG 9 (some 146) (rsV S2 d2) rfl rfl (by kernel_rfl) (by kernel_rfl) (by kernel_rfl) (fun _ _ _ h => h) (ans_plain (by rfl) (fun w _ => by unfold execOp; go_simp)) ?_
      simp only [Act.put, List.setIfInBounds_toArray, List.set_cons_zero, List.set_cons_succ]
      refine takeG 10 (some 147) (.slice ya ym yc) rfl rfl (by kernel_rfl) (by kernel_rfl) (by kernel_rfl) (fun _ _ _ h => h) (ans_plain (by rfl) (fun w _ => by unfold execOp; go_simp)) ?_
      simp only [Act.put, List.setIfInBounds_toArray, List.set_cons_zero, List.set_cons_succ]
      refine takeG 11 (some 148) (.int .i64 cd) rfl rfl (by kernel_rfl) (by kernel_rfl) (by kernel_rfl) (fun _ _ _ h => h) (ans_plain (by rfl) (fun w _ => by unfold execOp; go_simp)) ?_
      simp only [Act.put, List.setIfInBounds_toArray, List.set_cons_zero, List.set_cons_succ]
      refine oneG 13 (by kernel_rfl) fun v22 hg3 hs3 => ?_
      have hY := hY.below hg3 (Nat.le_refl _)
      have Bg := Bg.below hg3 Bg.lt
      refine opStR 13 37 (.tmp 26) (.tmp 146) 6 rfl rfl rfl rfl gx _ (rsC S2 d2) 37 Bg rfl rfl (rsC_one _ _) sizeRS rfl rfl fun v23 b9 k9 => ?_
      have hs9 : Grows v13 v23 := Below.trans hs3 (k9.below (B := v13.heap.size) (Below.size hs3) (fun i hi e => by omega))
      have hY := hY.kpCells k9 Bg (fun i v hv x => zeroNo8 i v hv x)
      refine ⟨hs9, ?_⟩
      refine takeG 14 (some 27) (.slice ya ym yc) rfl rfl (by kernel_rfl) (by kernel_rfl) (by kernel_rfl) (fun _ _ _ h => h) (ans_plain (by rfl) (fun w _ => rfl)) ?_
      simp only [Act.put, List.setIfInBounds_toArray, List.set_cons_zero, List.set_cons_succ]
      refine takeG 15 (some 28) (.int .i64 cd) rfl rfl (by kernel_rfl) (by kernel_rfl) (by kernel_rfl) (fun _ _ _ h => h) (ans_plain (by rfl) (fun w _ => rfl)) ?_
      simp only [Act.put, List.setIfInBounds_toArray, List.set_cons_zero, List.set_cons_succ]
      refine doneG (by kernel_rfl) fun v24 hgz hsz => ?_
      have M9 : Hid (Bs v24 ya ym yc tx ∧ Bs v24 xa xm xc tx ∧ Bs v24 (some ⟨g, 0, none⟩) 512 cc bb ∧ Below v13.heap.size v13 v24) := ⟨hY.below hgz (Nat.le_refl _), X13.out.below hsz (Nat.le_refl _), O13.out.below hsz (Nat.le_refl _), hsz⟩
      clear hY b9 k9 hs9 hgz hsz
      go_wp2_with fail
      go_meet
      case rel => exact ⟨ya, ym, yc, rfl, rfl, M9⟩
  case rest =>
  obtain ⟨ya, ym, yc, rfl, rfl, M14⟩ := hcut
  have Q14 : Hid (Below w.heap.size w wc) := Q13.out.trans (M14.out.2.2.2.mono Q13.out.size)
  have LS14 : Hid (s < wc.heap.size) := Nat.lt_of_lt_of_le LS13.out M14.out.2.2.2.size
  have Y14 : Hid (Bs wc ya ym yc tx) := M14.out.1
  have X14 : Hid (Bs wc xa xm xc tx) := M14.out.2.1
  obtain ⟨ca, cc', hcut1, hcb1, _⟩ := Bs.cutLow M14.out.2.2.1 1 (by omega)
  have hcut2 : ∀ (w : World), Sem.run Tryz.prog (Instr.slice 22 (.slice (some ⟨g, 0, none⟩) 512 cc) (some (.int .i64 1)) none none) w = .ok (.slice ca 511 cc') w := hcut1
  clear hcut1 hcb1 M14 Q13 LS13 R13 B13 O13 X13 CRO
  rename World => v14
  go_wp2_with fail
  refine regionG (S := Grows v14) (by kernel_rfl) (Below.refl _ v14).drew ?_
  refine takeG 0 (some 150) (.pointer (some ⟨s, 0, none⟩)) rfl rfl (by kernel_rfl) (by kernel_rfl) (by kernel_rfl) (fun _ _ _ h => h) (ans_plain (by rfl) (fun w _ => rfl)) ?_
  simp only [Act.put, List.setIfInBounds_toArray, List.set_cons_zero, List.set_cons_succ]
  refine takeG 1 (some 151) (.int .u8 (ke : Int)) rfl rfl (by kernel_rfl) (by kernel_rfl) (by kernel_rfl) (fun _ _ _ h => h) (ans_plain (by rfl) (fun w _ => rfl)) ?_
  simp only [Act.put, List.setIfInBounds_toArray, List.set_cons_zero, List.set_cons_succ]
  refine takeG 3 (some 153) (.slice a1 len1 cap1) rfl rfl (by kernel_rfl) (by kernel_rfl) (by kernel_rfl) (fun _ _ _ h => h) (ans_plain (by rfl) (fun w _ => rfl)) ?_
  simp only [Act.put, List.setIfInBounds_toArray, List.set_cons_zero, List.set_cons_succ]
  refine takeG 4 (some 154) (.int .i64 (n : Int)) rfl rfl (by kernel_rfl) (by kernel_rfl) (by kernel_rfl) (fun _ _ _ h => h) (ans_plain (by rfl) (fun w _ => rfl)) ?_
  simp only [Act.put, List.setIfInBounds_toArray, List.set_cons_zero, List.set_cons_succ]
  refine takeG 5 (some 155) (.slice (some ⟨g, 0, none⟩) 512 cc) rfl rfl (by kernel_rfl) (by kernel_rfl) (by kernel_rfl) (fun _ _ _ h => h) (ans_plain (by rfl) (fun w _ => rfl)) ?_
  simp only [Act.put, List.setIfInBounds_toArray, List.set_cons_zero, List.set_cons_succ]
  refine takeG 6 (some 156) (.slice ca 511 cc') rfl rfl (by kernel_rfl) (by kernel_rfl) (by kernel_rfl) (fun _ _ _ h => h) (ans_plain (by rfl) (fun w _ => by have hc := hcut2 w; unfold execOp; go_simp)) ?_
  simp only [Act.put, List.setIfInBounds_toArray, List.set_cons_zero, List.set_cons_succ]
  refine callG 2 (some 152) 8 #[.tmp 151] #[5] #[.int .u8 (ke : Int)] rfl rfl rfl (by rfl) (by rfl) (by kernel_rfl) Tryz.call8 fun u1 hg1 hs1 => ?_
  refine (lKey13 u1 ke hke).mono ?_
  rintro e u2 ⟨gk, rfl, _, ok, hbk⟩
  refine ⟨_, rfl, Grows.trans hs1 hbk, ?_⟩
  simp only [Act.put, List.setIfInBounds_toArray, List.set_cons_zero, List.set_cons_succ]
  refine callG 7 (some 157) 11 #[.tmp 150, .tmp 152, .tmp 153, .tmp 154, .const (.int .i64 0), .tmp 156] #[25, 22, 22, 3, 3, 22] #[.pointer (some ⟨s, 0, none⟩), .slice (some ⟨gk, 0, none⟩) 32 32, .slice a1 len1 cap1, .int .i64 (n : Int), .int .i64 0, .slice ca 511 cc'] rfl rfl rfl (by rfl) (by rfl) (by kernel_rfl) Tryz.call11 fun u3 hg3 hs3 => ?_
  refine (CO21.out u3 s _ _ _ _ _ _ (Nat.lt_of_lt_of_le LS14.out (Below.size hs3))).mono ?_
  rintro e u4 ⟨rfl, rfl⟩
  refine ⟨_, rfl, hs3, ?_⟩
  simp only [Act.put, List.setIfInBounds_toArray, List.set_cons_zero, List.set_cons_succ]
  refine takeG 8 (some 149) (.tuple #[.slice none 0 0, .int .i64 17]) rfl rfl (by kernel_rfl) (by kernel_rfl) (by kernel_rfl) (fun _ _ _ h => h) (ans_plain (by rfl) (fun w _ => rfl)) ?_
  simp only [Act.put, List.setIfInBounds_toArray, List.set_cons_zero, List.set_cons_succ]
  refine takeG 9 (some 158) (.slice none 0 0) rfl rfl (by kernel_rfl) (by kernel_rfl) (by kernel_rfl) (fun _ _ _ h => h) (ans_plain (by rfl) (fun w _ => by unfold execOp; go_simp)) ?_
  simp only [Act.put, List.setIfInBounds_toArray, List.set_cons_zero, List.set_cons_succ]
  refine takeG 10 (some 159) (.int .i64 17) rfl rfl (by kernel_rfl) (by kernel_rfl) (by kernel_rfl) (fun _ _ _ h => h) (ans_plain (by rfl) (fun w _ => by unfold execOp; go_simp)) ?_
  simp only [Act.put, List.setIfInBounds_toArray, List.set_cons_zero, List.set_cons_succ]
  refine takeG 11 (some 29) (.slice none 0 0) rfl rfl (by kernel_rfl) (by kernel_rfl) (by kernel_rfl) (fun _ _ _ h => h) (ans_plain (by rfl) (fun w _ => rfl)) ?_
  simp only [Act.put, List.setIfInBounds_toArray, List.set_cons_zero, List.set_cons_succ]
  refine takeG 12 (some 30) (.int .i64 17) rfl rfl (by kernel_rfl) (by kernel_rfl) (by kernel_rfl) (fun _ _ _ h => h) (ans_plain (by rfl) (fun w _ => rfl)) ?_
  simp only [Act.put, List.setIfInBounds_toArray, List.set_cons_zero, List.set_cons_succ]
  refine doneG (by kernel_rfl) fun v15 hg15 hs15 => ?_
  have Q15 : Hid (Below w.heap.size w v15) := Q14.out.trans (Below.mono hs15 Q14.out.size)
  have CSM : Hid (Calls Tryz.prog 13 #[.slice xa xm xc, .slice ya ym yc] v15 fun e w' => e = .returned (.bool true) ∧ ∃ k, w' = v15.drewN k) := by
    have := rSame v15 (X14.out.below hs15 (Nat.le_refl _)) (Y14.out.below hs15 (Nat.le_refl _))
    rwa [decide_eq_true rfl] at this
  clear hs15 hg15 hs3 hg3 hbk ok hs1 hg1 Q14 LS14 X14 Y14 hcut2
  go_wp2_with fail
  refine CSM.out.mono ?_
  rintro e v16 ⟨rfl, kk, hv16⟩
  have Q16 : Hid (Below w.heap.size w v16) := by rw [hv16]; exact below_drN Q15.out kk
  clear hv16 CSM Q15
  go_wp2_with fail
  refine (lWorks13 v16).mono ?_
  rintro e wz ⟨rfl, hbz⟩
  go_wp2_with fail
  go_ret
  exact ⟨rfl, Q16.out.trans (hbz.mono Q16.out.size)⟩

set_option maxRecDepth 100000 in
theorem lifted (os : Os) (started : os.Started) (H : Type) (enc : TypeId × Value → H) :
    ReturnsInHanded {} Tryz.checked os 3 .any (Rows.chunkOpensSpec.pre6 enc Tryz.prog Tryz.f3 Rows.chunkOpensRow.domain false) (Rows.chunkOpensSpec.post enc Tryz.prog Tryz.f3 false true false false) := by
  refine returnsInHanded_of_change (C := Tryz.checked) own started (by kernel_rfl) Tryz.func3
    (ChangeSpec.witness6 (enc := enc) (C := Tryz.checked) false ⟨#[], #[.int .u8 0, .slice none 0 0, .int .u16 0, .int .i64 0, .int .i64 0, .int .u16 0], []⟩ 8 (by kernel_rfl) (by kernel_rfl) (by kernel_rfl) (by kernel_rfl)) ?_
  intro W base args ds gs before hval0 hW hcnd _
  have hval : ∀ (j : Nat) t v, Tryz.f3.params[j]? = some t → args[j]? = some v → Value.okWide Tryz.prog W .any base t v := hval0
  have hW' := hW
  obtain ⟨p, q, hA0, hV, rfl, hfz, hnd⟩ := hW
  have hA : DataW.TrodAll enc Tryz.prog W 0 (fun _ => true) true Tryz.f3.params.toList args.toList ds p := hA0
  rw [Tryz.params3] at hA hval
  obtain ⟨v0, vs0, d0, ds0, p0, q0, hargs, rfl, rfl, h0, r0⟩ := trodAll_cons hA
  obtain ⟨v1, vs1, d1, ds1, p1, q1, rfl, rfl, rfl, h1, r1⟩ := trodAll_cons r0
  obtain ⟨v2, vs2, d2, ds2, p2, q2, rfl, rfl, rfl, h2, r2⟩ := trodAll_cons r1
  obtain ⟨v3, vs3, d3, ds3, p3, q3, rfl, rfl, rfl, h3, r3⟩ := trodAll_cons r2
  obtain ⟨v4, vs4, d4, ds4, p4, q4, rfl, rfl, rfl, h4, r4⟩ := trodAll_cons r3
  obtain ⟨v5, vs5, d5, ds5, p5, q5, rfl, rfl, rfl, h5, r5⟩ := trodAll_cons r4
  obtain ⟨rfl, rfl, rfl⟩ := trodAll_nil r5
  obtain rfl : args = #[v0, v1, v2, v3, v4, v5] := by cases args; simp_all
  obtain ⟨rfl, rfl⟩ := trodVars_none hV
  obtain ⟨a0, rfl, rfl, rfl, w0⟩ := open_int Tryz.underlying5 (hval 0 5 v0 rfl rfl) h0
  obtain ⟨a1, len1, cap1, rfl⟩ := okWide_slice Tryz.underlying22 (hval 1 22 v1 rfl rfl)
  have k1 := h1
  have lt1 : ∀ x ∈ p1, x.block < W.heap.size := by obtain ⟨m, hm⟩ := k1; exact DataW.trod_lt m _ _ _ hm
  obtain ⟨l1, w1⟩ : ∃ l, Bs W a1 len1 cap1 l := by
    obtain ⟨fuel, hf⟩ := h1
    exact Bs.of_trod hf
  obtain ⟨a2, rfl, rfl, rfl, w2⟩ := open_int Tryz.underlying23 (hval 2 23 v2 rfl rfl) h2
  obtain ⟨a3, rfl, rfl, rfl, w3⟩ := open_int Tryz.underlying3 (hval 3 3 v3 rfl rfl) h3
  obtain ⟨a4, rfl, rfl, rfl, w4⟩ := open_int Tryz.underlying3 (hval 4 3 v4 rfl rfl) h4
  obtain ⟨a5, rfl, rfl, rfl, w5⟩ := open_int Tryz.underlying23 (hval 5 23 v5 rfl rfl) h5
  clear hA0 hval0
  refine (walk a0 a1 len1 cap1 l1 a2 a3 a4 a5 W w0 w1 w2 w3 w4 w5).mono fun e W' ⟨he, bel⟩ => ?_
  subst he
  exact ⟨_, rfl, _, _, _, [], _, [], hW', trodAll_mk1 (shut_bool Tryz.underlying4 _), (trodAll_cons_mk (shut_int Tryz.underlying5 w0) (trodAll_cons_mk (Below.trod laidOut (by kernel_rfl) (of_decide_eq_true (by kernel_rfl)) k1 bel lt1) (trodAll_cons_mk (shut_int Tryz.underlying23 w2) (trodAll_cons_mk (shut_int Tryz.underlying3 w3) (trodAll_cons_mk (shut_int Tryz.underlying3 w4) (trodAll_cons_mk (shut_int Tryz.underlying23 w5) trodAll_mk0)))))), rfl, bel.frame _, fun h => by cases h⟩

theorem over : Rows.chunkOpensRow.holds Tryz.pinned (OpenSpec.ofChange Rows.chunkOpensSpec) :=
  OpenClaim.holds_of_wide 3 Tryz.f3 rfl rfl rfl rfl rfl rfl rfl ⟨rfl, rfl, rfl, rfl, rfl⟩ rfl rfl rfl rfl rfl (by kernel_rfl) Tryz.func3 (by kernel_rfl)
    (of_decide_eq_true (by kernel_rfl)) (by unfold Func.isWrapper; first | (rw [if_pos (by decide +kernel)]; kernel_rfl) | (rw [if_neg (by decide +kernel)]; exact ⟨rfl, rfl⟩))
    (fun os started H enc _ => lifted os started H enc)
end ChunkOpensLaw

/-- The statement. -/
theorem chunkOpens_holds : Rows.ChunkOpensSaid := ChunkOpensLaw.over
#print axioms chunkOpens_holds
end Go.Proofs.YtfknplcnfpincaaGreat
