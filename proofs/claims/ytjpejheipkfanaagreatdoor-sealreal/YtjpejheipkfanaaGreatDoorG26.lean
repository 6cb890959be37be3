/-
  4 texts in one. No statement of the seat is proved here.
-/
import Derived.Test.YtjpejheipkfanaaGreatDoorG25
import Derived.Deep.RegionLaw
import Derived.BigRegion
/-
  The contract of layer 12's reference's Derive. Conditions: a key of at most 1000 bytes, ends of at most 60000 in all, at most a thousand keys.
-/
namespace Go.Proofs.YtjpejheipkfanaaGreatDoor
open Go.RowKit
set_option linter.unusedVariables false

theorem resCT13 {fn : Func} {p t : Tmp} {ty : TypeId} (h : fn.results = #[.cell p ty, .tmp t]) (tmps : Array Value) (w : World) (g : Nat) (cs : Array Value) (hp : tmps.getD p undef = .pointer (some ⟨g, 0, none⟩)) (hl : (loadVar ty ⟨g, 0, none⟩).run Tryz.prog w = .ok (.agg cs) w) (x : Value) (hx : tmps.getD t undef = x) : (results fn tmps).run Tryz.prog w = .ok (.tuple #[.agg cs, x]) w := resCT12 h tmps w g cs hp hl x hx
theorem zeros_noByte {i : Nat} {v : Value} (h : ([.bool false, .slice none 0 0, .slice none 0 0, .int .u64 0, .bool false, .bool false] : List Value)[i]? = some v) : ∀ x, v ≠ .int .u8 x := by
  have hm := List.mem_of_getElem? h
  simp only [List.mem_cons, List.not_mem_nil, or_false] at hm
  rcases hm with rfl | rfl | rfl | rfl | rfl | rfl <;> simp

set_option maxRecDepth 100000 in
set_option maxHeartbeats 2000000 in
theorem rDerive12R (w : World) {A : Nat → Prop} {S : SeaS} {d : Du} (h : RS A w S d) (hi : S.ideal = false) {f : List UInt8} {ls : List (List UInt8)} {af ap : Option Addr} {nf cf np cp : Nat} (hf : Bs w af nf cf f) (hp : Bss w ap np cp ls) (zf : nf ≤ 1000) (zp : np ≤ 1000) (zt : tot ls ≤ 60000) :
    Calls Tryz.prog 25 #[rsV S d, .slice af nf cf, .slice ap np cp] w fun e w' => ∃ a m c, e = .returned (.tuple #[rsV S d, .slice a m c]) ∧ Bs w' a m c (expI (macL [] f) (packL ls) 32) ∧ Below w.heap.size w w' := by
  have HF : Hid (Bs w af nf cf f) := hf
  have HP : Hid (Bss w ap np cp ls) := hp
  have HPL : Hid ((packL ls).length ≤ 70000) := by
    show _ ≤ _
    have := packL_length ls
    have := hp.len
    omega
  obtain ⟨ba, bn, bc, ca, cn', cc⟩ := d
  obtain ⟨si, sb, sk, sq, sr, sf⟩ := S
  dsimp only at hi
  subst hi
  have CP : Hid (∀ u, Below w.heap.size w u → Calls Tryz.prog 47 #[.slice ap np cp] u (Gives u (packL ls))) := fun u hu => rPack u (hp.below hu (Nat.le_refl _)) (by omega) (by omega)
  obtain ⟨P, hP⟩ : ∃ P, P = packL ls := ⟨_, rfl⟩
  rw [← hP] at CP HPL ⊢
  clear h hf hp hP HP
  show Calls Tryz.prog _ #[.agg #[.bool false, .slice ba bn bc, .slice ca cn' cc, .int .u64 (sq : Int), .bool sr, .bool sf], _, _] w _
  have q1 : Below w.heap.size w ((w.alloc (.cells #[.bool false, .slice ba bn bc, .slice ca cn' cc, .int .u64 (sq : Int), .bool sr, .bool sf] 31)).alloc (.cells #[.bool false, .slice none 0 0, .slice none 0 0, .int .u64 0, .bool false, .bool false] 31)) := (below_alloc w _).trans ((below_alloc _ _).mono (by simp))
  have B3 : Blk ((w.alloc (.cells #[.bool false, .slice ba bn bc, .slice ca cn' cc, .int .u64 (sq : Int), .bool sr, .bool sf] 31)).alloc (.cells #[.bool false, .slice none 0 0, .slice none 0 0, .int .u64 0, .bool false, .bool false] 31)) w.heap.size [.bool false, .slice ba bn bc, .slice ca cn' cc, .int .u64 (sq : Int), .bool sr, .bool sf] 31 := (Blk.new w _ _).old _
  have B6 : Blk ((w.alloc (.cells #[.bool false, .slice ba bn bc, .slice ca cn' cc, .int .u64 (sq : Int), .bool sr, .bool sf] 31)).alloc (.cells #[.bool false, .slice none 0 0, .slice none 0 0, .int .u64 0, .bool false, .bool false] 31)) (w.heap.size + 1) [.bool false, .slice none 0 0, .slice none 0 0, .int .u64 0, .bool false, .bool false] 31 := Blk.newAt (w.alloc (.cells #[.bool false, .slice ba bn bc, .slice ca cn' cc, .int .u64 (sq : Int), .bool sr, .bool sf] 31)) _ _ _ (by simp) _ rfl
  go_enter Tryz.func25, Tryz.ntmps25
  go_upto_region 1 with fail
  obtain ⟨x3, hx3⟩ : ∃ x, x = w.heap.size := ⟨_, rfl⟩
  obtain ⟨x6, hx6⟩ : ∃ x, x = w.heap.size + 1 := ⟨_, rfl⟩
  rw [← hx6] at B6 ⊢
  rw [← hx3] at B3 ⊢
  have hxx : x3 < x6 ∧ w.heap.size ≤ x3 := by omega
  clear hx3 hx6
  generalize (w.alloc (.cells #[.bool false, .slice ba bn bc, .slice ca cn' cc, .int .u64 (sq : Int), .bool sr, .bool sf] 31)).alloc (.cells #[.bool false, .slice none 0 0, .slice none 0 0, .int .u64 0, .bool false, .bool false] 31) = w1 at *
  go_wp2_with fail
  refine (CP.out w1 q1).mono ?_
  rintro e w2 ⟨a2, m2, c2, rfl, o2, hb2⟩
  have Q2 : Hid (Below w.heap.size w w2) := q1.trans (hb2.mono q1.size)
  have B32 : Hid (Blk w2 x3 [.bool false, .slice ba bn bc, .slice ca cn' cc, .int .u64 (sq : Int), .bool sr, .bool sf] 31) := B3.below hb2 B3.lt
  have B62 : Hid (Blk w2 x6 [.bool false, .slice none 0 0, .slice none 0 0, .int .u64 0, .bool false, .bool false] 31) := B6.below hb2 B6.lt
  have P2 : Hid (Bs w2 a2 m2 c2 P) := o2.toBs
  have hm2 : m2 ≤ 70000 := by rw [← P2.out.len]; exact HPL.out
  have c30 : w2.cell? ⟨x3, 0, none⟩ = some (.bool false) := B32.out.cell 0
  have l3 := B32.out.lt
  clear CP o2 hb2 q1 B3 B6
  go_wp2_with fail
  refine regionG (S := Kp (fun j => j = x6) w2) (by kernel_rfl) (Kp.of_below (Below.refl _ w2).drew) ?_
  refine takeG 0 (some 18) (.agg ([.bool false, .slice ba bn bc, .slice ca cn' cc, .int .u64 (sq : Int), .bool sr, .bool sf] : List Value).toArray) rfl rfl (by kernel_rfl) (by kernel_rfl) (by kernel_rfl) (fun _ _ _ h => h) (ans_row 31 (.tmp 3) _ 6 rfl (by rfl) x3 0 rfl [.bool false, .slice ba bn bc, .slice ca cn' cc, .int .u64 (sq : Int), .bool sr, .bool sf] (fun u hu => (hu.blk B32.out (by omega)).whole) Tryz.underlying31 rfl rfl sizeRS) ?_
  simp only [Act.put, List.setIfInBounds_toArray, List.set_cons_zero, List.set_cons_succ]
  refine takeG 1 (some 19) (.slice af nf cf) rfl rfl (by kernel_rfl) (by kernel_rfl) (by kernel_rfl) (fun _ _ _ h => h) (ans_plain (by rfl) (fun w _ => rfl)) ?_
  simp only [Act.put, List.setIfInBounds_toArray, List.set_cons_zero, List.set_cons_succ]
  refine takeG 2 (some 20) (.slice a2 m2 c2) rfl rfl (by kernel_rfl) (by kernel_rfl) (by kernel_rfl) (fun _ _ _ h => h) (ans_plain (by rfl) (fun w _ => rfl)) ?_
  simp only [Act.put, List.setIfInBounds_toArray, List.set_cons_zero, List.set_cons_succ]
  refine callG 3 (some 21) 48 #[.tmp 19, .const (.slice none 0 0), .const (.int .i64 32), .tmp 20] #[32, 32, 3, 32] #[.slice af nf cf, .slice none 0 0, .int .i64 32, .slice a2 m2 c2] rfl rfl rfl (by rfl) (by rfl) (by kernel_rfl) Tryz.call48 fun w4 hg4 hs4 => ?_
  have q4 : Below w2.heap.size w2 w4 := Grows.ofDrew hg4
  have Q4 : Below w.heap.size w w4 := Q2.out.trans (q4.mono Q2.out.size)
  refine (rDerive w4 (HF.out.below Q4 (Nat.le_refl _)) (by omega) (Bs.nil w4) (by omega) 32 (by omega) (by omega) (P2.out.below q4 (Nat.le_refl _)) (by omega)).mono ?_
  rintro e w5 ⟨a5, m5, c5, rfl, hB5, hb5⟩
  refine ⟨_, rfl, hs4.trans (Kp.of_below hb5), ?_⟩
  simp only [Act.put, List.setIfInBounds_toArray, List.set_cons_zero, List.set_cons_succ]
  have q5 : Below w2.heap.size w2 w5 := q4.trans (hb5.mono q4.size)
  refine oneG 4 (by kernel_rfl) fun w6 hg6 hs6 => ?_
  have q6 : Below w2.heap.size w2 w6 := q5.trans (Below.mono hg6 q5.size)
  refine opStR 4 31 (.tmp 6) (.tmp 18) 6 rfl rfl rfl rfl x6 [.bool false, .slice none 0 0, .slice none 0 0, .int .u64 0, .bool false, .bool false] [.bool false, .slice ba bn bc, .slice ca cn' cc, .int .u64 (sq : Int), .bool sr, .bool sf] 31 (B62.out.below q6 B62.out.lt) rfl rfl (rsLL_one false ba bn bc ca cn' cc sq sr sf) sizeRS rfl rfl fun w7 B7 k7 => ?_
  refine ⟨hs6.trans k7, ?_⟩
  refine takeG 5 (some 7) (.slice a5 m5 c5) rfl rfl (by kernel_rfl) (by kernel_rfl) (by kernel_rfl) (fun _ _ _ h => h) (ans_plain (by rfl) (fun w _ => rfl)) ?_
  simp only [Act.put, List.setIfInBounds_toArray, List.set_cons_zero, List.set_cons_succ]
  refine doneG (by kernel_rfl) fun w8 hg8 hs8 => ?_
  have Q6 : Below w.heap.size w w6 := Q2.out.trans (q6.mono Q2.out.size)
  have Q7 : Below w.heap.size w w7 := Kp.new Q6 k7 fun j hj => by omega
  have Q8 : Hid (Below w.heap.size w w8) := Q7.trans (Below.mono hg8 Q7.size)
  have B8 : Hid (Blk w8 x6 [.bool false, .slice ba bn bc, .slice ca cn' cc, .int .u64 (sq : Int), .bool sr, .bool sf] 31) := B7.grows hg8
  have X8 : Hid (Bs w8 a5 m5 c5 (expI (macL [] f) P 32)) := ((hB5.below hg6 (Nat.le_refl _)).kpCells k7 (B62.out.below q6 B62.out.lt) (fun i v hv => zeros_noByte hv)).below hg8 (Nat.le_refl _)
  clear hB5 hb5 hs4 hg4 q4 Q4 q5 hg6 hs6 q6 B7 k7 hg8 hs8 Q6 Q7
  go_wp2_with fail
  refine bodyPost_ret (v := .tuple #[.agg ([.bool false, .slice ba bn bc, .slice ca cn' cc, .int .u64 (sq : Int), .bool sr, .bool sf] : List Value).toArray, .slice a5 m5 c5]) (resCT13 Tryz.results25 _ _ x6 _ rfl (run_loadVar_row _ x6 31 31 _ (0, 0) _ B8.out Tryz.underlying31 rfl sizeRS) _ rfl) rfl ?_
  exact ⟨a5, m5, c5, rfl, X8.out, Q8.out⟩

end Go.Proofs.YtjpejheipkfanaaGreatDoor

/-
  The contract of layer 12's reference's Derive, ideally. Conditions: a key of at most 1000 bytes, ends of at most 60000 in all, at most a thousand keys.
-/
namespace Go.Proofs.YtjpejheipkfanaaGreatDoor
open Go.RowKit
set_option linter.unusedVariables false

theorem kid_step {S : SeaS} {u p : List UInt8} {i : Nat} {c : Kid} (hi : S.kids[i]? = some c) (hn : ∀ x ∈ S.kids.take i, x.is u p = false) (he : c.is u p = true) : S.kid u p = some c := by
  have hs : S.kids = S.kids.take i ++ c :: S.kids.drop (i + 1) := by
    have hlt := (List.getElem?_eq_some_iff.1 hi).1
    rw [← (List.getElem?_eq_some_iff.1 hi).2, List.getElem_cons_drop hlt, List.take_append_drop]
  unfold SeaS.kid
  rw [hs, List.find?_append, List.find?_eq_none.2 (fun x hx => by rw [hn x hx]; decide), Option.none_or, List.find?_cons, he]
theorem kid_none {S : SeaS} {u p : List UInt8} (hn : ∀ x ∈ S.kids, x.is u p = false) : S.kid u p = none := by
  unfold SeaS.kid
  exact List.find?_eq_none.2 (fun x hx => by rw [hn x hx]; decide)
theorem three_one (p0 : Option Addr) (m0 q0 : Nat) (p1 : Option Addr) (m1 q1 : Nat) (p2 : Option Addr) (m2 q2 : Nat) : ∀ u ∈ [Value.slice p0 m0 q0, .slice p1 m1 q1, .slice p2 m2 q2], u.oneCell' = true := by
  intro v hv
  simp only [List.mem_cons, List.not_mem_nil, or_false] at hv
  rcases hv with rfl | rfl | rfl <;> rfl
/-- What Derive answers. -/
def DerivR (A : Nat → Prop) (S' : SeaS) (l : List UInt8) (w : World) (e : Ending) (w' : World) : Prop := ∃ d' a m c, e = .returned (.tuple #[rsV S' d', .slice a m c]) ∧ RS A w' S' d' ∧ BA A w' a m c l ∧ Below w.heap.size w w'

set_option maxRecDepth 100000 in
set_option maxHeartbeats 4000000 in
theorem rDerive12I (w : World) {A : Nat → Prop} (hA : ∀ j, w.heap.size ≤ j → A j) {S : SeaS} {d : Du} (h : RS A w S d) (hi : S.ideal = true) {f : List UInt8} {ls : List (List UInt8)} {af ap : Option Addr} {nf cf np cp : Nat} (hf : BA A w af nf cf f) (hp : Bss w ap np cp ls) (zf : nf ≤ 1000) (zp : np ≤ 1000) (zt : tot ls ≤ 60000) (hz : S.kids.length ≤ 1000) (hq : S.count ≤ 1000000) :
    Calls Tryz.prog 25 #[rsV S d, .slice af nf cf, .slice ap np cp] w (DerivR A (S.derive f (packL ls)) (noiseL (S.num f (packL ls)) 32) w) := by
  have HF : Hid (BA (Off A (w.heap.size + 1)) w af nf cf f) := hf.off (by omega)
  have HR : Hid (RS (Off A (w.heap.size + 1)) w S d) := h.off (by omega)
  have HAA : Hid (∀ j, w.heap.size ≤ j → A j) := hA
  have CP : Hid (∀ u, Below w.heap.size w u → Calls Tryz.prog 47 #[.slice ap np cp] u (Gives u (packL ls))) := fun u hu => rPack u (hp.below hu (Nat.le_refl _)) (by omega) (by omega)
  obtain ⟨P, hP⟩ : ∃ P, P = packL ls := ⟨_, rfl⟩
  rw [← hP] at CP ⊢
  have hkl : S.kids.length = d.cn := Sl.len h.kids
  have hcap := Sl.cap h.kids
  have HL : Hid (S.kids.length = d.cn) := hkl
  have hbn : d.cn ≤ 1000 := by omega
  have HDN : Hid (S.kid f P = none → S.derive f P = { S with count := S.count + 1, kids := S.kids ++ [⟨f, P, S.count + 1⟩] } ∧ S.num f P = S.count + 1) := fun hn => ⟨SeaS.derive_none hn, by unfold SeaS.num; rw [hn]⟩
  have HDS : Hid (∀ c, S.kid f P = some c → S.derive f P = S ∧ S.num f P = c.num) := fun c hc => ⟨SeaS.derive_some hc, SeaS.num_of hc⟩
  have HKS : Hid (∀ (i : Nat) (c : Kid), S.kids[i]? = some c → (∀ x ∈ S.kids.take i, x.is f P = false) → c.is f P = true → S.kid f P = some c) := fun i c h1 h2 h3 => kid_step h1 h2 h3
  have HKN : Hid ((∀ x ∈ S.kids, x.is f P = false) → S.kid f P = none) := fun h1 => kid_none h1
  clear h hf hp hP hA hkl hz
  obtain ⟨ba, bn, bc, ca, cn', cc⟩ := d
  obtain ⟨si, sb, sk, sq, sr, sf⟩ := S
  dsimp only at hi hcap hbn hq HL HDN HDS HKS HKN
  subst hi
  show Calls Tryz.prog _ #[.agg #[.bool true, .slice ba bn bc, .slice ca cn' cc, .int .u64 (sq : Int), .bool sr, .bool sf], _, _] w _
  have q1 : Below w.heap.size w ((w.alloc (.cells #[.bool true, .slice ba bn bc, .slice ca cn' cc, .int .u64 (sq : Int), .bool sr, .bool sf] 31)).alloc (.cells #[.bool false, .slice none 0 0, .slice none 0 0, .int .u64 0, .bool false, .bool false] 31)) := (below_alloc w _).trans ((below_alloc _ _).mono (by simp))
  have B3 : Blk ((w.alloc (.cells #[.bool true, .slice ba bn bc, .slice ca cn' cc, .int .u64 (sq : Int), .bool sr, .bool sf] 31)).alloc (.cells #[.bool false, .slice none 0 0, .slice none 0 0, .int .u64 0, .bool false, .bool false] 31)) w.heap.size [.bool true, .slice ba bn bc, .slice ca cn' cc, .int .u64 (sq : Int), .bool sr, .bool sf] 31 := (Blk.new w _ _).old _
  have B6 : Blk ((w.alloc (.cells #[.bool true, .slice ba bn bc, .slice ca cn' cc, .int .u64 (sq : Int), .bool sr, .bool sf] 31)).alloc (.cells #[.bool false, .slice none 0 0, .slice none 0 0, .int .u64 0, .bool false, .bool false] 31)) (w.heap.size + 1) [.bool false, .slice none 0 0, .slice none 0 0, .int .u64 0, .bool false, .bool false] 31 := Blk.newAt (w.alloc (.cells #[.bool true, .slice ba bn bc, .slice ca cn' cc, .int .u64 (sq : Int), .bool sr, .bool sf] 31)) _ _ _ (by simp) _ rfl
  go_enter Tryz.func25, Tryz.ntmps25
  go_upto_region 1 with fail
  obtain ⟨x3, hx3⟩ : ∃ x, x = w.heap.size := ⟨_, rfl⟩
  obtain ⟨x6, hx6⟩ : ∃ x, x = w.heap.size + 1 := ⟨_, rfl⟩
  rw [← hx6] at B6 HF HR ⊢
  rw [← hx3] at B3 ⊢
  have hxx : x3 < x6 ∧ w.heap.size ≤ x3 := by omega
  clear hx3 hx6
  generalize (w.alloc (.cells #[.bool true, .slice ba bn bc, .slice ca cn' cc, .int .u64 (sq : Int), .bool sr, .bool sf] 31)).alloc (.cells #[.bool false, .slice none 0 0, .slice none 0 0, .int .u64 0, .bool false, .bool false] 31) = w1 at *
  have lx6 : x6 < w1.heap.size := B6.lt
  go_wp2_with fail
  refine (CP.out w1 q1).mono ?_
  rintro e w2 ⟨a2, m2, c2, rfl, o2, hb2⟩
  have Q2 : Hid (Below w.heap.size w w2) := q1.trans (hb2.mono q1.size)
  have B32 : Hid (Blk w2 x3 [.bool true, .slice ba bn bc, .slice ca cn' cc, .int .u64 (sq : Int), .bool sr, .bool sf] 31) := B3.below hb2 B3.lt
  have B62 : Hid (Blk w2 x6 [.bool false, .slice none 0 0, .slice none 0 0, .int .u64 0, .bool false, .bool false] 31) := B6.below hb2 B6.lt
  have P2 : Hid (BA (Off A x6) w2 a2 m2 c2 P) := o2.ba.mono' fun j _ hj => ⟨HAA.out j (by have := q1.size; omega), by omega⟩
  have c30 : w2.cell? ⟨x3, 0, none⟩ = some (.bool true) := B32.out.cell 0
  have l3 := B32.out.lt
  clear CP o2 hb2 q1 B3 B6
  go_wp2_with fail
  clear c30 l3
  go_loopw [9] (fun i wr => ∃ t : Nat, t ≤ cn' ∧ i = .int .i64 (t : Int) ∧ Hid ((∀ x ∈ sk.take t, x.is f P = false) ∧ Below w2.heap.size w2 wr)) (fun i _ => cn' - (intOf i).toNat)
  case atStart => exact ⟨0, Nat.zero_le _, rfl, fun x hx => by simp at hx, Below.refl _ _⟩
  case round =>
    obtain ⟨t, ht, rfl, HI⟩ := hrel
    have QR : Hid (Below w.heap.size w wr) := Q2.out.trans (HI.out.2.mono Q2.out.size)
    have B3R : Hid (Blk wr x3 [.bool true, .slice ba bn bc, .slice ca cn' cc, .int .u64 (sq : Int), .bool sr, .bool sf] 31) := B32.out.below HI.out.2 B32.out.lt
    have B6R : Hid (Blk wr x6 [.bool false, .slice none 0 0, .slice none 0 0, .int .u64 0, .bool false, .bool false] 31) := B62.out.below HI.out.2 B62.out.lt
    have PR : Hid (BA (Off A x6) wr a2 m2 c2 P) := P2.out.below' HI.out.2
    have c32 : wr.cell? ⟨x3, 2, none⟩ = some (.slice ca cn' cc) := B3R.out.cell 2
    have l3 := B3R.out.lt
    by_cases hlt : t < cn'
    · have i0 : (t : Int) < (cn' : Int) := by omega
      obtain ⟨e, he⟩ : ∃ e, sk[t]? = some e := ⟨_, List.getElem?_eq_getElem (by rw [HL.out]; exact hlt)⟩
      obtain ⟨bb, oo, vs, hba, hlb, hrg, hvl, p0, m0, q0, p1, m1, q1, p2, m2', q2, rfl, b0, b1, b2⟩ := Sl.at (HR.out.grow QR.out).kids he
      dsimp only at hba
      rw [hba] at c32
      clear hba
      have e0 : wr.cell? ⟨bb, oo + t * 3, none⟩ = some (.slice p0 m0 q0) := hrg 0 _ rfl
      have e1 : wr.cell? ⟨bb, oo + t * 3 + 1, none⟩ = some (.slice p1 m1 q1) := hrg 1 _ rfl
      have e2 : wr.cell? ⟨bb, oo + t * 3 + 2, none⟩ = some (.slice p2 m2' q2) := hrg 2 _ rfl
      obtain ⟨D0, hD0⟩ : ∃ D, D = decide (e.up = f) := ⟨_, rfl⟩
      obtain ⟨D1, hD1⟩ : ∃ D, D = decide (e.what = P) := ⟨_, rfl⟩
      have C0 : Hid (∀ u, Below wr.heap.size wr u → Calls Tryz.prog 20 #[.slice p0 m0 q0, .slice af nf cf] u fun e w' => e = .returned (.bool D0) ∧ Below u.heap.size u w') := fun u hu => by rw [hD0]; exact sameD u (b0.below' hu).1 (HF.out.1.below (QR.out.trans (hu.mono QR.out.size)) (Nat.le_refl _))
      have C1 : Hid (∀ u, Below wr.heap.size wr u → Calls Tryz.prog 20 #[.slice p1 m1 q1, .slice a2 m2 c2] u fun e w' => e = .returned (.bool D1) ∧ Below u.heap.size u w') := fun u hu => by rw [hD1]; exact sameD u (b1.below' hu).1 (PR.out.below' hu).1
      have HD : Hid (e.is f P = (D0 && D1)) := by show _ = _; rw [hD0, hD1]; rfl
      have HE : Hid (sk[t]? = some e) := he
      have G2 : Hid (BA (Off A x6) wr p2 m2' q2 (noiseL e.num 32)) := b2
      have BE := Blk.new wr #[.slice p0 m0 q0, .slice p1 m1 q1, .slice p2 m2' q2] 99
      have QE : Hid (Below wr.heap.size wr (wr.alloc (.cells #[.slice p0 m0 q0, .slice p1 m1 q1, .slice p2 m2' q2] 99))) := below_alloc wr _
      clear b0 b1 b2 hrg he hD0 hD1
      go_wp2_with fail
      obtain ⟨xe, hxe⟩ : ∃ x, x = wr.heap.size := ⟨_, rfl⟩
      rw [← hxe] at BE ⊢
      have hxe6 : x6 < xe := by have := B6R.out.lt; omega
      have HBE : Hid (Blk (wr.alloc (.cells #[.slice p0 m0 q0, .slice p1 m1 q1, .slice p2 m2' q2] 99)) xe [.slice p0 m0 q0, .slice p1 m1 q1, .slice p2 m2' q2] 99) := BE
      clear hxe BE c32 l3 e0 e1 e2
      generalize wr.alloc (.cells #[.slice p0 m0 q0, .slice p1 m1 q1, .slice p2 m2' q2] 99) = w3 at *
      refine (C0.out w3 QE.out).mono ?_
      rintro _ w4 ⟨rfl, hb4⟩
      have Q4 : Hid (Below wr.heap.size wr w4) := QE.out.trans (hb4.mono QE.out.size)
      have E4 := HBE.out.below hb4 HBE.out.lt
      have f1 : w4.cell? ⟨xe, 1, none⟩ = some (.slice p1 m1 q1) := E4.cell 1
      have l4 := E4.lt
      have NX : Hid (∀ u, Below wr.heap.size wr u → (D0 && D1) = false → (∀ x ∈ sk.take (t + 1), x.is f P = false) ∧ Below w2.heap.size w2 u) := fun u hu hf => ⟨take_all HE.out HI.out.1 (by rw [HD.out, hf]), HI.out.2.trans (hu.mono HI.out.2.size)⟩
      cases D0 with
      | false =>
        clear E4 f1
        go_wp2_with fail
        go_roundw
        case rel => exact ⟨t + 1, by omega, by go_num, NX.out _ Q4.out rfl⟩
        case measure => simp [intOf]; omega
      | true =>
        go_wp2_with fail
        refine (C1.out w4 Q4.out).mono ?_
        rintro _ w5 ⟨rfl, hb5⟩
        have Q5 : Hid (Below wr.heap.size wr w5) := Q4.out.trans (hb5.mono Q4.out.size)
        have E5 : Hid (Blk w5 xe [.slice p0 m0 q0, .slice p1 m1 q1, .slice p2 m2' q2] 99) := E4.below hb5 E4.lt
        clear f1 E4 l4
        cases D1 with
        | false =>
          go_wp2_with fail
          go_roundw
          case rel => exact ⟨t + 1, by omega, by go_num, NX.out _ Q5.out rfl⟩
          case measure => simp [intOf]; omega
        | true =>
          have hkd := HKS.out t e HE.out HI.out.1 HD.out
          have HDD : Hid (SeaS.derive ⟨true, sb, sk, sq, sr, sf⟩ f P = ⟨true, sb, sk, sq, sr, sf⟩ ∧ SeaS.num ⟨true, sb, sk, sq, sr, sf⟩ f P = e.num) := HDS.out e hkd
          have QW : Hid (Below w.heap.size w w5) := QR.out.trans (Q5.out.mono QR.out.size)
          have B35 : Hid (Blk w5 x3 [.bool true, .slice ba bn bc, .slice ca cn' cc, .int .u64 (sq : Int), .bool sr, .bool sf] 31) := B3R.out.below Q5.out B3R.out.lt
          have B65 : Hid (Blk w5 x6 [.bool false, .slice none 0 0, .slice none 0 0, .int .u64 0, .bool false, .bool false] 31) := B6R.out.below Q5.out B6R.out.lt
          have G5 : Hid (BA (Off A x6) w5 p2 m2' q2 (noiseL e.num 32)) := G2.out.below' Q5.out
          clear hkd C0 C1 NX HI HDN HKS HKN
          go_wp2_with fail
          have F2 : ∀ u, Kp (fun j => j = x6) w5 u → u.cell? ⟨xe, 2, none⟩ = some (.slice p2 m2' q2) := fun u hu => (hu.blk E5.out (by omega)).cell 2
          refine regionG (S := Kp (fun j => j = x6) w5) (by kernel_rfl) (Kp.of_below (Below.refl _ w5).drew) ?_
          refine takeG 0 (some 44) (.agg ([.bool true, .slice ba bn bc, .slice ca cn' cc, .int .u64 (sq : Int), .bool sr, .bool sf] : List Value).toArray) rfl rfl (by kernel_rfl) (by kernel_rfl) (by kernel_rfl) (fun _ _ _ h => h) (ans_row 31 (.tmp 3) _ 6 rfl (by rfl) x3 0 rfl [.bool true, .slice ba bn bc, .slice ca cn' cc, .int .u64 (sq : Int), .bool sr, .bool sf] (fun u hu => (hu.blk B35.out (by omega)).whole) Tryz.underlying31 rfl rfl sizeRS) ?_
          simp only [Act.put, List.setIfInBounds_toArray, List.set_cons_zero, List.set_cons_succ]
          refine takeG 1 (some 45) (.pointer (some ⟨xe, 2, none⟩)) rfl rfl (by kernel_rfl) (by kernel_rfl) (by kernel_rfl) (fun _ _ _ h => h) (ans_plain (by rfl) (fun w _ => by unfold execOp; go_simp)) ?_
          simp only [Act.put, List.setIfInBounds_toArray, List.set_cons_zero, List.set_cons_succ]
          refine takeG 2 (some 46) (.slice p2 m2' q2) rfl rfl (by kernel_rfl) (by kernel_rfl) (by kernel_rfl) (fun _ _ _ h => h) (ans_plain (by rfl) (fun w h => by have hc := F2 w h; unfold execOp; go_simp)) ?_
          simp only [Act.put, List.setIfInBounds_toArray, List.set_cons_zero, List.set_cons_succ]
          refine oneG 3 (by kernel_rfl) fun w6 hg6 hs6 => ?_
          have q6 : Below w5.heap.size w5 w6 := Grows.ofDrew hg6
          refine opStR 3 31 (.tmp 6) (.tmp 44) 6 rfl rfl rfl rfl x6 [.bool false, .slice none 0 0, .slice none 0 0, .int .u64 0, .bool false, .bool false] [.bool true, .slice ba bn bc, .slice ca cn' cc, .int .u64 (sq : Int), .bool sr, .bool sf] 31 (B65.out.below q6 B65.out.lt) rfl rfl (rsLL_one true ba bn bc ca cn' cc sq sr sf) sizeRS rfl rfl fun w7 B7 k7 => ?_
          refine ⟨hs6.trans k7, ?_⟩
          refine takeG 4 (some 7) (.slice p2 m2' q2) rfl rfl (by kernel_rfl) (by kernel_rfl) (by kernel_rfl) (fun _ _ _ h => h) (ans_plain (by rfl) (fun w _ => rfl)) ?_
          simp only [Act.put, List.setIfInBounds_toArray, List.set_cons_zero, List.set_cons_succ]
          refine doneG (by kernel_rfl) fun w8 hg8 hs8 => ?_
          have Q6 : Below w.heap.size w w6 := QW.out.trans (q6.mono QW.out.size)
          have Q7 : Below w.heap.size w w7 := Kp.new Q6 k7 fun j hj => by omega
          have Q8 : Hid (Below w.heap.size w w8) := Q7.trans (Below.mono hg8 Q7.size)
          have B8 : Hid (Blk w8 x6 [.bool true, .slice ba bn bc, .slice ca cn' cc, .int .u64 (sq : Int), .bool sr, .bool sf] 31) := B7.grows hg8
          have X8 : Hid (BA A w8 p2 m2' q2 (noiseL e.num 32)) := (((G5.out.below' q6).kp k7 fun j hj e => hj.2 e).below' hg8).mono' fun j _ hj => hj.1
          have R8 : Hid (RS A w8 ⟨true, sb, sk, sq, sr, sf⟩ ⟨ba, bn, bc, ca, cn', cc⟩) := (HR.out.grow Q8.out).mono fun j _ hj => hj.1
          clear hg6 hs6 q6 B7 k7 hg8 hs8 Q6 Q7 F2
          go_wp2_with fail
          refine bodyPost_ret (v := .tuple #[.agg ([.bool true, .slice ba bn bc, .slice ca cn' cc, .int .u64 (sq : Int), .bool sr, .bool sf] : List Value).toArray, .slice p2 m2' q2]) (resCT13 Tryz.results25 _ _ x6 _ rfl (run_loadVar_row _ x6 31 31 _ (0, 0) _ B8.out Tryz.underlying31 rfl sizeRS) _ rfl) rfl ?_
          exact ⟨⟨ba, bn, bc, ca, cn', cc⟩, p2, m2', q2, by rw [HDD.out.1]; rfl, by rw [HDD.out.1]; exact R8.out, by rw [HDD.out.2]; exact X8.out, Q8.out⟩
    · have i0 : ¬ (t : Int) < (cn' : Int) := by omega
      have hkd := HKN.out fun x hx => HI.out.1 x (by rw [List.take_of_length_le (by rw [HL.out]; omega)]; exact hx)
      have HDD : Hid (SeaS.derive ⟨true, sb, sk, sq, sr, sf⟩ f P = ⟨true, sb, sk ++ [⟨f, P, sq + 1⟩], sq + 1, sr, sf⟩ ∧ SeaS.num ⟨true, sb, sk, sq, sr, sf⟩ f P = sq + 1) := HDN.out hkd
      clear hkd HI HDS HDN HKS HKN
      have e0 : wr.cell? ⟨x3, 0, none⟩ = some (.bool true) := B3R.out.cell 0
      have e1 : wr.cell? ⟨x3, 1, none⟩ = some (.slice ba bn bc) := B3R.out.cell 1
      have e3 : wr.cell? ⟨x3, 3, none⟩ = some (.int .u64 (sq : Int)) := B3R.out.cell 3
      have e4 : wr.cell? ⟨x3, 4, none⟩ = some (.bool sr) := B3R.out.cell 4
      have e5 : wr.cell? ⟨x3, 5, none⟩ = some (.bool sf) := B3R.out.cell 5
      go_upto_region 12 with fail
      have B11 := Blk.new wr #[.bool true, .slice ba bn bc, .slice ca cn' cc, .int .u64 ((sq : Int) + 1), .bool sr, .bool sf] 31
      have q4 : Below wr.heap.size wr (wr.alloc (.cells #[.bool true, .slice ba bn bc, .slice ca cn' cc, .int .u64 ((sq : Int) + 1), .bool sr, .bool sf] 31)) := below_alloc wr _
      obtain ⟨x11, hx11⟩ : ∃ x, x = wr.heap.size := ⟨_, rfl⟩
      rw [← hx11] at B11 ⊢
      have hx611 : x6 < x11 ∧ x3 < x11 ∧ wr.heap.size ≤ x11 := by have := B6R.out.lt; have := B3R.out.lt; omega
      clear hx11 e0 e1 e3 e4 e5
      generalize wr.alloc (.cells #[.bool true, .slice ba bn bc, .slice ca cn' cc, .int .u64 ((sq : Int) + 1), .bool sr, .bool sf] 31) = w4 at *
      have c113 : w4.cell? ⟨x11, 3, none⟩ = some (.int .u64 ((sq : Int) + 1)) := B11.cell 3
      have l11 := B11.lt
      have hsq : (sq : Int) + 1 ≤ 1000001 := by omega
      go_wp2_with fail
      refine (rNoise ((sq : Int) + 1) 32 w4 (by omega) (by omega) (by omega) (by omega)).mono ?_
      rintro e w5 ⟨az, mz, cz, rfl, oz, hb5⟩
      rw [show ((sq : Int) + 1).toNat = sq + 1 from by omega, show (32 : Int).toNat = 32 from rfl] at oz
      have B115 := B11.below hb5 B11.lt
      have c112 : w5.cell? ⟨x11, 2, none⟩ = some (.slice ca cn' cc) := B115.cell 2
      have f112 := B115.free 2
      have l115 := B115.lt
      have hbC : ∀ (p0 p1 p2 : Option Addr) (m0 q0 m1 q1 m2 q2 : Nat), Tryz.prog.built 99 [(0, .slice p0 m0 q0), (1, .slice p1 m1 q1), (2, .slice p2 m2 q2)] = some #[.slice p0 m0 q0, .slice p1 m1 q1, .slice p2 m2 q2] := fun _ _ _ _ _ _ _ _ _ => by kernel_rfl
      have q5 : Below wr.heap.size wr w5 := q4.trans (hb5.mono q4.size)
      have k56 : Kp (fun j => j = x11) w5 (w5.setCell ⟨x11, 2, none⟩ (.slice none 0 0)) := Kp.of_grown (but_set w5 x11 2 _)
      have S116 := B115.setC 2 (.slice none 0 0)
      have hsz56 : (w5.setCell ⟨x11, 2, none⟩ (.slice none 0 0)).heap.size = w5.heap.size := by simp [World.setCell]
      have bA := below_alloc (w5.setCell ⟨x11, 2, none⟩ (.slice none 0 0)) (.cells #[.slice af nf cf, .slice a2 m2 c2, .slice az mz cz] 99)
      have K6 : Hid (Kp (fun j => j = x11) w5 ((w5.setCell ⟨x11, 2, none⟩ (.slice none 0 0)).alloc (.cells #[.slice af nf cf, .slice a2 m2 c2, .slice az mz cz] 99))) := k56.trans (Kp.of_below bA)
      have S6 : Hid (Blk ((w5.setCell ⟨x11, 2, none⟩ (.slice none 0 0)).alloc (.cells #[.slice af nf cf, .slice a2 m2 c2, .slice az mz cz] 99)) x11 [.bool true, .slice ba bn bc, .slice none 0 0, .int .u64 ((sq : Int) + 1), .bool sr, .bool sf] 31) := S116.old _
      have B12 : Hid (Blk ((w5.setCell ⟨x11, 2, none⟩ (.slice none 0 0)).alloc (.cells #[.slice af nf cf, .slice a2 m2 c2, .slice az mz cz] 99)) w5.heap.size [.slice af nf cf, .slice a2 m2 c2, .slice az mz cz] 99) := Blk.newAt _ _ _ _ hsz56 _ rfl
      have hxr : x11 < w4.heap.size := l11
      have hqr := QR.out.size
      have Q6 : Hid (Below w.heap.size w ((w5.setCell ⟨x11, 2, none⟩ (.slice none 0 0)).alloc (.cells #[.slice af nf cf, .slice a2 m2 c2, .slice az mz cz] 99))) := Kp.new (QR.out.trans (q5.mono QR.out.size)) K6.out fun j hj => by omega
      have R6 : Hid (RS (Off (Off A x6) x11) ((w5.setCell ⟨x11, 2, none⟩ (.slice none 0 0)).alloc (.cells #[.slice af nf cf, .slice a2 m2 c2, .slice az mz cz] 99)) ⟨true, sb, sk, sq, sr, sf⟩ ⟨ba, bn, bc, ca, cn', cc⟩) := (HR.out.off (by omega)).grow Q6.out
      have F6 : Hid (BA (Off (Off A x6) x11) ((w5.setCell ⟨x11, 2, none⟩ (.slice none 0 0)).alloc (.cells #[.slice af nf cf, .slice a2 m2 c2, .slice az mz cz] 99)) af nf cf f) := (HF.out.off (by omega)).below' Q6.out
      have Z6 : Hid (BA (Off (Off A x6) x11) ((w5.setCell ⟨x11, 2, none⟩ (.slice none 0 0)).alloc (.cells #[.slice af nf cf, .slice a2 m2 c2, .slice az mz cz] 99)) az mz cz (noiseL (sq + 1) 32)) := (BA.kp oz.ba K6.out fun j hj e => by omega).mono' fun j _ hj => ⟨⟨HAA.out j (by have := q4.size; omega), by omega⟩, by omega⟩
      have P6 : Hid (BA (Off (Off A x6) x11) ((w5.setCell ⟨x11, 2, none⟩ (.slice none 0 0)).alloc (.cells #[.slice af nf cf, .slice a2 m2 c2, .slice az mz cz] 99)) a2 m2 c2 P) := by
        have h1 : BA (fun j => Off A x6 j ∧ j < wr.heap.size) wr a2 m2 c2 P := PR.out.mono' fun j hj ha => ⟨ha, hj⟩
        exact ((h1.below' q5).kp K6.out fun j hj e => by have := hj.2; omega).mono' fun j _ hj => ⟨hj.1, by have := hj.2; omega⟩
      have B36 : Hid (Blk ((w5.setCell ⟨x11, 2, none⟩ (.slice none 0 0)).alloc (.cells #[.slice af nf cf, .slice a2 m2 c2, .slice az mz cz] 99)) x3 [.bool true, .slice ba bn bc, .slice ca cn' cc, .int .u64 (sq : Int), .bool sr, .bool sf] 31) := K6.out.blk (B3R.out.below q5 B3R.out.lt) (by omega)
      have B66 : Hid (Blk ((w5.setCell ⟨x11, 2, none⟩ (.slice none 0 0)).alloc (.cells #[.slice af nf cf, .slice a2 m2 c2, .slice az mz cz] 99)) x6 [.bool false, .slice none 0 0, .slice none 0 0, .int .u64 0, .bool false, .bool false] 31) := K6.out.blk (B6R.out.below q5 B6R.out.lt) (by omega)
      clear B11 c113 hb5 B115 q4 q5 k56 S116 bA oz
      go_upto_region 14 with fail
      obtain ⟨x12, hx12⟩ : ∃ x, x = w5.heap.size := ⟨_, rfl⟩
      rw [← hx12] at B12 ⊢
      have hx1112 : x11 < x12 := by omega
      clear hx12 f112 c112 hbC
      generalize ((w5.setCell ⟨x11, 2, none⟩ (.slice none 0 0)).alloc (.cells #[.slice af nf cf, .slice a2 m2 c2, .slice az mz cz] 99)) = w6 at *
      have SRC := (R6.out.mono (A' := Old (Off (Off A x6) x11) w6) fun j hj ha => ⟨ha, hj⟩).kids
      have c112 : w6.cell? ⟨x11, 2, none⟩ = some (.slice none 0 0) := S6.out.cell 2
      have l116 := S6.out.lt
      have c32 : w6.cell? ⟨x3, 2, none⟩ = some (.slice ca cn' cc) := B36.out.cell 2
      have l36 := B36.out.lt
      go_upto_region 15 with (at_builtin; (refine wpList_slapp (elD (Old (Off (Off A x6) x11) w6)) 3 72 28 99 _ Tryz.underlying28 infoCh rfl (by decide) (by decide) w6 rfl (.tmp 60) (.tmp 62) rfl w6.heap.size (.slice none 0 0) [] rfl (OwS.nil _ _ _ _ _) (Old (Off (Off A x6) x11) w6) ca cn' cc sk rfl SRC (by simp [HL.out]; omega) (Nat.le_refl _) (fun w' x vs hg hx => elD.new hg (Nat.le_refl _) (fun j hj => by simp [Value.ownBlock] at hj) x vs hx) ?_); intro v7 w7 o7 g7
                              have S7 : Blk w7 x11 [.bool true, .slice ba bn bc, .slice none 0 0, .int .u64 ((sq : Int) + 1), .bool sr, .bool sf] 31 := S6.out.same (g7.block _ S6.out.lt (by simp [Value.ownBlock]))
                              have c7 : w7.cell? ⟨x11, 2, none⟩ = some (.slice none 0 0) := S7.cell 2
                              have f7 := S7.free 2
                              have l7 := S7.lt
                              obtain ⟨a3, n3, c3, rfl, hl3⟩ := o7.shape)
      have g7b : Below w6.heap.size w6 w7 := ⟨g7.os, g7.tape, g7.output, g7.size, fun j hj => g7.block j hj (by simp [Value.ownBlock])⟩
      have S8 : Blk (w7.setCell ⟨x11, 2, none⟩ (.slice a3 n3 c3)) x11 [.bool true, .slice ba bn bc, .slice a3 n3 c3, .int .u64 ((sq : Int) + 1), .bool sr, .bool sf] 31 := S7.setC 2 (.slice a3 n3 c3)
      have k78 : Kp (fun j => j = x11) w7 (w7.setCell ⟨x11, 2, none⟩ (.slice a3 n3 c3)) := Kp.of_grown (but_set w7 x11 2 _)
      have K8 : Hid (Kp (fun j => j = x11) w6 (w7.setCell ⟨x11, 2, none⟩ (.slice a3 n3 c3))) := (Kp.of_below g7b).trans k78
      have o8 : OwS (elD (Old (Off (Off A x6) x11) w6)) 3 99 (w7.setCell ⟨x11, 2, none⟩ (.slice a3 n3 c3)) w6.heap.size (.slice a3 n3 c3) ([] ++ sk) := o7.keep (elD.keep k78.size fun j hj ha => k78.block j hj ha.1.2) (fun j hj => k78.block j (o7.lt j hj).2 (fun e => by have := (o7.lt j hj).1; omega))
      clear S7 c7 f7 l7 g7 o7 g7b k78 SRC
      generalize w7.setCell ⟨x11, 2, none⟩ (.slice a3 n3 c3) = w8 at *
      have B128 := K8.out.blk B12.out (by omega)
      have e0 : w8.cell? ⟨x12, 0, none⟩ = some (.slice af nf cf) := B128.cell 0
      have e1 : w8.cell? ⟨x12, 1, none⟩ = some (.slice a2 m2 c2) := B128.cell 1
      have e2 : w8.cell? ⟨x12, 2, none⟩ = some (.slice az mz cz) := B128.cell 2
      have l128 := B128.lt
      have c8 : w8.cell? ⟨x11, 2, none⟩ = some (.slice a3 n3 c3) := S8.cell 2
      have l8 := S8.lt
      have bA := below_alloc w8 (.cells #[.slice af nf cf, .slice a2 m2 c2, .slice az mz cz] 99)
      have K9 : Kp (fun j => j = x11) w6 (w8.alloc (.cells #[.slice af nf cf, .slice a2 m2 c2, .slice az mz cz] 99)) := K8.out.trans (Kp.of_below bA)
      have o9 : OwS (elD (Old (Off (Off A x6) x11) w6)) 3 99 (w8.alloc (.cells #[.slice af nf cf, .slice a2 m2 c2, .slice az mz cz] 99)) w6.heap.size (.slice a3 n3 c3) ([] ++ sk) := o8.keep (elD.keep bA.size fun j hj ha => bA.block j hj) (fun j hj => bA.block j (o8.lt j hj).2)
      have F9 := F6.out.old.kp K9 fun j hj => hj.1.2
      have P9 := P6.out.old.kp K9 fun j hj => hj.1.2
      have Z9 := Z6.out.old.kp K9 fun j hj => hj.1.2
      have ON : Sl (elD (Old (Off (Off A x6) x11) w6)) 3 (fun _ => True) (w8.alloc (.cells #[.slice af nf cf, .slice a2 m2 c2, .slice az mz cz] 99)) (some ⟨w8.heap.size, 0, none⟩) 1 1 [⟨f, P, sq + 1⟩] := Sl.one (Blk.new w8 _ _) ⟨rfl, three_one _ _ _ _ _ _ _ _ _, af, nf, cf, a2, m2, c2, az, mz, cz, rfl, F9, P9, Z9⟩ trivial
      have S9 : Blk (w8.alloc (.cells #[.slice af nf cf, .slice a2 m2 c2, .slice az mz cz] 99)) x11 [.bool true, .slice ba bn bc, .slice a3 n3 c3, .int .u64 ((sq : Int) + 1), .bool sr, .bool sf] 31 := S8.old _
      have hsz9 : w6.heap.size ≤ ((w8.alloc (.cells #[.slice af nf cf, .slice a2 m2 c2, .slice az mz cz] 99))).heap.size := Nat.le_trans K8.out.size bA.size
      clear B128
      go_upto_region 16 with (at_builtin; (refine wpList_slapp (elD (Old (Off (Off A x6) x11) w6)) 3 72 28 99 _ Tryz.underlying28 infoCh rfl (by decide) (by decide) (w8.alloc (.cells #[.slice af nf cf, .slice a2 m2 c2, .slice az mz cz] 99)) rfl (.tmp 66) (.tmp 68) rfl w6.heap.size (.slice a3 n3 c3) ([] ++ sk) rfl o9 (fun _ => True) (some ⟨w8.heap.size, 0, none⟩) 1 1 [⟨f, P, sq + 1⟩] rfl ON (by simp [HL.out]; omega) hsz9 (fun w' x vs hg hx => elD.new hg K9.size (fun j hj => (o9.lt j hj).1) x vs hx) ?_); intro v10 w10 o10 g10
                              have no11 : ¬ (Value.slice a3 n3 c3).ownBlock = some x11 := fun e => by have := (o9.lt _ e).1; have := S6.out.lt; omega
                              have S10 : Blk w10 x11 [.bool true, .slice ba bn bc, .slice a3 n3 c3, .int .u64 ((sq : Int) + 1), .bool sr, .bool sf] 31 := S9.same (g10.block _ S9.lt (fun e => no11 e.symm))
                              obtain ⟨a9, n9, c9, rfl, hl9⟩ := o10.shape
                              have c10 : w10.cell? ⟨x11, 2, none⟩ = some (.slice a3 n3 c3) := S10.cell 2
                              have f10 := S10.free 2
                              have l10 := S10.lt)
      have k1011 : Kp (fun j => j = x11) w10 (w10.setCell ⟨x11, 2, none⟩ (.slice a9 n9 c9)) := Kp.of_grown (but_set w10 x11 2 _)
      have S11 : Hid (Blk (w10.setCell ⟨x11, 2, none⟩ (.slice a9 n9 c9)) x11 [.bool true, .slice ba bn bc, .slice a9 n9 c9, .int .u64 ((sq : Int) + 1), .bool sr, .bool sf] 31) := S10.setC 2 (.slice a9 n9 c9)
      have l6 := S6.out.lt
      have g910 : Kp (fun j => w6.heap.size ≤ j) (w8.alloc (.cells #[.slice af nf cf, .slice a2 m2 c2, .slice az mz cz] 99)) w10 := ⟨g10.os, g10.tape, g10.output, g10.size, fun j hj hn => g10.block j hj (fun e => hn ((o9.lt j e.symm).1))⟩
      have K11 : Hid (Kp (fun j => j = x11 ∨ w6.heap.size ≤ j) w6 (w10.setCell ⟨x11, 2, none⟩ (.slice a9 n9 c9))) := ((K9.mono fun j _ e => Or.inl e).trans (g910.mono fun j _ e => Or.inr e)).trans (k1011.mono fun j _ e => Or.inl e)
      have o11 : Hid (OwS (elD (Old (Off (Off A x6) x11) w6)) 3 99 (w10.setCell ⟨x11, 2, none⟩ (.slice a9 n9 c9)) w6.heap.size (.slice a9 n9 c9) ([] ++ sk ++ [⟨f, P, sq + 1⟩])) := o10.keep (elD.keep k1011.size fun j hj ha => k1011.block j hj ha.1.2) (fun j hj => k1011.block j (o10.lt j hj).2 (fun e => by have := (o10.lt j hj).1; omega))
      clear S10 c10 f10 l10 g10 o10 k1011 g910 o9 ON S9 K9 bA F9 P9 Z9 o8 S8 c8 l8 e0 e1 e2 l128 hsz9
      generalize w10.setCell ⟨x11, 2, none⟩ (.slice a9 n9 c9) = wB at *
      have hw6 : ∀ j, j < w6.heap.size → ¬ j = x11 → wB.heap[j]? = w6.heap[j]? := fun j hj hn => K11.out.block j hj (fun e => e.elim hn (fun h => by omega))
      have QB : Hid (Below w.heap.size w wB) := ⟨Q6.out.os ▸ K11.out.os, Q6.out.tape ▸ K11.out.tape, Q6.out.output ▸ K11.out.output, Nat.le_trans Q6.out.size K11.out.size, fun j hj => (hw6 j (Nat.lt_of_lt_of_le hj Q6.out.size) (by omega)).trans (Q6.out.block j hj)⟩
      have B12B : Hid (Blk wB x12 [.slice af nf cf, .slice a2 m2 c2, .slice az mz cz] 99) := B12.out.same (hw6 _ B12.out.lt (by omega))
      have B6B : Hid (Blk wB x6 [.bool false, .slice none 0 0, .slice none 0 0, .int .u64 0, .bool false, .bool false] 31) := B66.out.same (hw6 _ B66.out.lt (by omega))
      have ZB : Hid (BA (Off A x6) wB az mz cz (noiseL (sq + 1) 32)) := (Z6.out.keep K11.out.size fun j hj ha => hw6 j hj ha.2).mono' fun j _ hj => hj.1
      clear hw6 K11 B12 B66 B36 Z6 P6 F6 S6 R6 K6
      have F2 : ∀ u, Kp (fun j => j = x6) wB u → u.cell? ⟨x12, 2, none⟩ = some (.slice az mz cz) := fun u hu => (hu.blk B12B.out (by omega)).cell 2
      refine regionG (S := Kp (fun j => j = x6) wB) (by kernel_rfl) (Kp.of_below (Below.refl _ wB).drew) ?_
      refine takeG 0 (some 71) (.agg ([.bool true, .slice ba bn bc, .slice a9 n9 c9, .int .u64 ((sq : Int) + 1), .bool sr, .bool sf] : List Value).toArray) rfl rfl (by kernel_rfl) (by kernel_rfl) (by kernel_rfl) (fun _ _ _ h => h) (ans_row 31 (.tmp 11) _ 6 rfl (by rfl) x11 0 rfl [.bool true, .slice ba bn bc, .slice a9 n9 c9, .int .u64 ((sq : Int) + 1), .bool sr, .bool sf] (fun u hu => (hu.blk S11.out (by omega)).whole) Tryz.underlying31 rfl rfl sizeRS) ?_
      simp only [Act.put, List.setIfInBounds_toArray, List.set_cons_zero, List.set_cons_succ]
      refine takeG 1 (some 72) (.pointer (some ⟨x12, 2, none⟩)) rfl rfl (by kernel_rfl) (by kernel_rfl) (by kernel_rfl) (fun _ _ _ h => h) (ans_plain (by rfl) (fun w _ => by unfold execOp; go_simp)) ?_
      simp only [Act.put, List.setIfInBounds_toArray, List.set_cons_zero, List.set_cons_succ]
      refine takeG 2 (some 73) (.slice az mz cz) rfl rfl (by kernel_rfl) (by kernel_rfl) (by kernel_rfl) (fun _ _ _ h => h) (ans_plain (by rfl) (fun w h => by have hc := F2 w h; unfold execOp; go_simp)) ?_
      simp only [Act.put, List.setIfInBounds_toArray, List.set_cons_zero, List.set_cons_succ]
      refine oneG 3 (by kernel_rfl) fun wC hg6 hs6 => ?_
      have q6 : Below wB.heap.size wB wC := Grows.ofDrew hg6
      refine opStR 3 31 (.tmp 6) (.tmp 71) 6 rfl rfl rfl rfl x6 [.bool false, .slice none 0 0, .slice none 0 0, .int .u64 0, .bool false, .bool false] [.bool true, .slice ba bn bc, .slice a9 n9 c9, .int .u64 ((sq : Int) + 1), .bool sr, .bool sf] 31 (B6B.out.below q6 B6B.out.lt) rfl rfl (rsLL_one true ba bn bc a9 n9 c9 (sq + 1) sr sf) sizeRS rfl rfl fun w7 B7 k7 => ?_
      refine ⟨hs6.trans k7, ?_⟩
      refine takeG 4 (some 7) (.slice az mz cz) rfl rfl (by kernel_rfl) (by kernel_rfl) (by kernel_rfl) (fun _ _ _ h => h) (ans_plain (by rfl) (fun w _ => rfl)) ?_
      simp only [Act.put, List.setIfInBounds_toArray, List.set_cons_zero, List.set_cons_succ]
      refine doneG (by kernel_rfl) fun w9 hg9 hs9 => ?_
      have QC : Below w.heap.size w wC := QB.out.trans (q6.mono QB.out.size)
      have Q7 : Below w.heap.size w w7 := Kp.new QC k7 fun j hj => by omega
      have Q9 : Hid (Below w.heap.size w w9) := Q7.trans (Below.mono hg9 Q7.size)
      have B9 : Hid (Blk w9 x6 [.bool true, .slice ba bn bc, .slice a9 n9 c9, .int .u64 ((sq : Int) + 1), .bool sr, .bool sf] 31) := B7.grows hg9
      have kC9 : Kp (fun j => j = x6) wB w9 := ((Kp.of_below q6).trans k7).trans (Kp.of_below hg9)
      have X9 : Hid (BA A w9 az mz cz (noiseL (sq + 1) 32)) := (ZB.out.kp kC9 fun j hj e => hj.2 e).mono' fun j _ hj => hj.1
      have lx6B := B6B.out.lt
      have o9 : OwS (elD (Old (Off (Off A x6) x11) w6)) 3 99 w9 w6.heap.size (.slice a9 n9 c9) ([] ++ sk ++ [⟨f, P, sq + 1⟩]) := o11.out.keep (elD.keep kC9.size fun j hj ha => kC9.block j hj ha.1.1.2) (fun j hj => kC9.block j (o11.out.lt j hj).2 (fun e => by have := (o11.out.lt j hj).1; have := l36; omega))
      rw [List.nil_append] at o9
      have hkd := (o9.sl3 (A := A) fun j hj _ => HAA.out j (by have := Q6.out.size; omega)).mono (el' := elD A) (elD.mono fun j _ ha => ha.1.1.1) (fun _ _ h => h)
      have R9 : Hid (RS A w9 ⟨true, sb, sk ++ [⟨f, P, sq + 1⟩], sq + 1, sr, sf⟩ ⟨ba, bn, bc, a9, n9, c9⟩) := ⟨((HR.out.grow Q9.out).mono (A' := A) fun j _ hj => hj.1).book, hkd⟩
      clear hg6 hs6 q6 B7 k7 hg9 hs9 QC Q7 F2 kC9 o9 hkd
      go_wp2_with fail
      refine bodyPost_ret (v := .tuple #[.agg ([.bool true, .slice ba bn bc, .slice a9 n9 c9, .int .u64 ((sq : Int) + 1), .bool sr, .bool sf] : List Value).toArray, .slice az mz cz]) (resCT13 Tryz.results25 _ _ x6 _ rfl (run_loadVar_row _ x6 31 31 _ (0, 0) _ B9.out Tryz.underlying31 rfl sizeRS) _ rfl) rfl ?_
      exact ⟨⟨ba, bn, bc, a9, n9, c9⟩, az, mz, cz, by rw [HDD.out.1]; rfl, by rw [HDD.out.1]; exact R9.out, by rw [HDD.out.2]; exact X9.out, Q9.out⟩

end Go.Proofs.YtjpejheipkfanaaGreatDoor

/-
  Layer 12's statements' 'turned': bytes as many as there were. No condition beside the length.
-/
namespace Go.Proofs.YtjpejheipkfanaaGreatDoor
open Go.RowKit
set_option linter.unusedVariables false

/-- As many bytes as there were. -/
def Turns (n : Nat) (w : World) (e : Ending) (w' : World) : Prop := ∃ a c l, e = .returned (.slice a n c) ∧ l.length = n ∧ Own w' w.heap.size (.slice a n c) l ∧ Below w.heap.size w w'
theorem Turns.drew {n : Nat} {w w' : World} {e : Ending} (h : Turns n w e w') : Turns n w e w'.drew := by
  obtain ⟨a, c, l, h1, h2, h3, h4⟩ := h
  exact ⟨a, c, l, h1, h2, h3.below (Below.refl _ w').drew (Nat.le_refl _), h4.drew⟩
theorem Own.empty (w : World) : Own (w.alloc (.cells #[] 5)) w.heap.size (.slice (some ⟨w.heap.size, 0, none⟩) 0 0) [] := Own.ofBlk (Blk.new w #[] 5) (Nat.le_refl _) rfl (by omega)

set_option maxRecDepth 100000 in
set_option maxHeartbeats 2000000 in
theorem lTurned12 (w : World) {a : Option Addr} {m c : Nat} {l : List UInt8} (ha : Bs w a m c l) (hz : m ≤ 1000) (n : Nat) (hn : n ≤ 65535) : Calls Tryz.prog 23 #[.slice a m c, .int .u16 (n : Int)] w (Turns m w) := by
  have hl := ha.len
  have HE := Own.empty w
  have HA := ha.below (below_alloc w (.cells #[] 5)) (Nat.le_refl _)
  by_cases h0 : 0 < n ∧ 0 < m
  · have i1 : (0 : Int) < (n : Int) := by omega
    have i2 : (0 : Int) < (m : Int) := by omega
    go_enter Tryz.func23, Tryz.ntmps23
    go_upto_region 2 with (at_builtin; refine wpList_app _ rfl (.tmp 7) (.tmp 8) rfl w.heap.size _ _ rfl HE _ _ _ _ rfl HA (by simp; omega) (by simp) ?_; intro v2 w2 o2 b2)
    rw [List.nil_append] at o2
    obtain ⟨pa, mm, cc, e2, hsh⟩ := o2.shape
    subst e2
    have hmm : mm = m := by rw [← o2.toBs.len, hl]
    subst hmm
    obtain ⟨g, rfl⟩ : ∃ g, pa = some ⟨g, 0, none⟩ := by
      rcases hsh with e | h
      · subst e
        have t1 := o2.toBs.2.2.2.1 rfl
        have t2 := o2.toBs.cap
        omega
      · exact h
    have hg : w.heap.size ≤ g := (World.ownsRow.lt o2 g rfl).1
    obtain ⟨kk, hkk⟩ : ∃ kk : Nat, kk = n % (8 * mm) := ⟨_, rfl⟩
    have hkl : kk < 8 * mm := by rw [hkk]; exact Nat.mod_lt _ (by omega)
    have n1 : (n : Int).tmod (8 * (mm : Int)) = (kk : Int) := by rw [Int.tmod_eq_emod_of_nonneg (by omega), hkk]; norm_cast
    have n2 : (n : Int) % (8 * (mm : Int)) = (kk : Int) := by rw [hkk]; norm_cast
    have n3 : IntKind.i64.wrap (n : Int) = (n : Int) := by rw [IntKind.wrap_i64]; omega
    have n4 : IntKind.i64.wrap (kk : Int) = (kk : Int) := by rw [IntKind.wrap_i64]; omega
    have n5 : IntKind.i64.wrap (8 * (mm : Int)) = 8 * (mm : Int) := by rw [IntKind.wrap_i64]; omega
    have n6 : ¬ 8 * (mm : Int) = 0 := by omega
    obtain ⟨q, hq⟩ : ∃ q, q = kk / 8 := ⟨_, rfl⟩
    obtain ⟨s, hs⟩ : ∃ s, s = kk % 8 := ⟨_, rfl⟩
    have hqm : q < mm := by omega
    have hs8 : s < 8 := by omega
    have q5 : (kk : Int).tdiv 8 = (q : Int) := by rw [quo8, hq]
    have q6 : (kk : Int) / 8 = (q : Int) := by omega
    have q7 : (kk : Int).tmod 8 = (s : Int) := by rw [rem8, hs]
    have q8 : (kk : Int) % 8 = (s : Int) := by omega
    have q9 : IntKind.i64.wrap (s : Int) = (s : Int) := by rw [IntKind.wrap_i64]; omega
    have qa : IntKind.i64.wrap (q : Int) = (q : Int) := by rw [IntKind.wrap_i64]; omega
    have qb : (0 : Int) ≤ (s : Int) := by omega
    have qc : (0 : Int) ≤ (q : Int) := by omega
    have qd : (q : Int) < (mm : Int) := by omega
    have p1 := pow_byte (s := s) hs8
    have p2 := shl_one (s := s) hs8
    have p3 : (2 : Int) ^ s % 256 = ((1 <<< UInt8.ofNat s : UInt8).toNat : Int) := by rw [Int.one_mul] at p2; exact p2
    generalize (1 <<< UInt8.ofNat s : UInt8) = z at *
    have c1 : w2.cell? ⟨g, q, none⟩ = some (.int .u8 ((l.getD q 0).toNat : Int)) := by
      obtain ⟨_, _, ex, hc⟩ := o2.toBs.2.2.2.2 q hqm
      simp only [Option.some.injEq, Addr.mk.injEq, and_true] at ex
      obtain ⟨rfl, rfl⟩ := ex
      rw [Nat.zero_add] at hc
      exact hc
    have f1 := o2.free hl q
    have o5 := o2.set hl q (l.getD q 0 ^^^ z)
    have px := xor_u8 (l.getD q 0) z
    generalize l.getD q 0 ^^^ z = yz at *
    generalize l.getD q 0 = y at *
    have HO : Hid (Turns mm w (.returned (.slice (some ⟨g, 0, none⟩) mm cc)) (w2.setCell ⟨g, q, none⟩ (.int .u8 (yz.toNat : Int)))) := ⟨_, _, _, rfl, by rw [List.length_set, hl], o5, ((below_alloc w _).trans b2).setCell hg _⟩
    clear hkk hq hs hkl o5 o2 HE HA ha b2 hsh
    go_wp2_with fail
    go_region
    all_goals go_wp2_with fail
    all_goals go_ret
    all_goals exact Turns.drew HO.out
  · have i1 : ¬ ((0 : Int) < (n : Int) ∧ (0 : Int) < (m : Int)) := by omega
    by_cases hn0 : 0 < n
    · have i2 : (0 : Int) < (n : Int) := by omega
      have i3 : ¬ (0 : Int) < (m : Int) := by omega
      go_enter Tryz.func23, Tryz.ntmps23
      go_upto_region 2 with (at_builtin; refine wpList_app _ rfl (.tmp 7) (.tmp 8) rfl w.heap.size _ _ rfl HE _ _ _ _ rfl HA (by simp; omega) (by simp) ?_; intro v2 w2 o2 b2)
      rw [List.nil_append] at o2
      obtain ⟨pa, mm, cc, e2, hsh⟩ := o2.shape
      subst e2
      have hmm : mm = m := by rw [← o2.toBs.len, hl]
      subst hmm
      go_wp2_with fail
      go_ret
      exact ⟨_, _, _, rfl, hl, o2, (below_alloc w _).trans b2⟩
    · have i2 : ¬ (0 : Int) < (n : Int) := by omega
      go_enter Tryz.func23, Tryz.ntmps23
      go_upto_region 2 with (at_builtin; refine wpList_app _ rfl (.tmp 7) (.tmp 8) rfl w.heap.size _ _ rfl HE _ _ _ _ rfl HA (by simp; omega) (by simp) ?_; intro v2 w2 o2 b2)
      rw [List.nil_append] at o2
      obtain ⟨pa, mm, cc, e2, hsh⟩ := o2.shape
      subst e2
      have hmm : mm = m := by rw [← o2.toBs.len, hl]
      subst hmm
      go_wp2_with fail
      go_ret
      exact ⟨_, _, _, rfl, hl, o2, (below_alloc w _).trans b2⟩

end Go.Proofs.YtjpejheipkfanaaGreatDoor

/-
  What layer 12's statements' 'do' keeps ('DoI'), and what it leaves ('DoneS'). No condition; no statement of the seat is proved here.
-/
namespace Go.Proofs.YtjpejheipkfanaaGreatDoor
open Go.RowKit
set_option linter.unusedVariables false

/-- Both sealers, ahead of an act: the program's in block r, the reference's by value, in memory of A, which is none of U. -/
structure DoI (U A : Nat → Prop) (w : World) (r : Nat) (S : SeaS) (M : SeaM) (d : Du) : Prop where
  se : Se U w r S M
  ok : S.Ok
  rs : RS A w S d
  off : ∀ j, A j → ¬ U j
  new : ∀ j, w.heap.size ≤ j → A j
  nb : S.count + S.book.length + S.kids.length ≤ 900
theorem DoI.grow {U A : Nat → Prop} {w w' : World} {r : Nat} {S : SeaS} {M : SeaM} {d : Du} (h : DoI U A w r S M d) (hb : Below w.heap.size w w') : DoI U A w' r S M d :=
  ⟨h.se.grow hb, h.ok, h.rs.grow hb, h.off, fun j hj => h.new j (Nat.le_trans hb.size hj), h.nb⟩
/-- What an act makes of the plain sealer. -/
structure Nx (S S' : SeaS) : Prop where
  ok : S'.Ok
  ideal : S'.ideal = S.ideal
  size : S'.count + S'.book.length + S'.kids.length ≤ S.count + S.book.length + S.kids.length + 2
  forged : S.ideal = true → S'.forged = S.forged
/-- What an act leaves. -/
def DoneS (U A : Nat → Prop) (r : Nat) (M : SeaM) (S : SeaS) (w : World) (e : Ending) (w' : World) : Prop := ∃ S' d' a m c l, e = .returned (.tuple #[rsV S' d', .slice a m c, .bool true]) ∧ Nx S S' ∧ Se U w' r S' M ∧ RS A w' S' d' ∧ BA A w' a m c l ∧ m ≤ 100 ∧ Kp U w w'
theorem SeaS.seal_kids (S : SeaS) (k n b t : List UInt8) : (S.seal k n b t).kids = S.kids := rfl
theorem SeaS.derive_kids (S : SeaS) (u p : List UInt8) : (S.derive u p).count + (S.derive u p).book.length + (S.derive u p).kids.length ≤ S.count + S.book.length + S.kids.length + 2 := by
  unfold SeaS.derive
  split
  · omega
  · simp only [List.length_append, List.length_singleton]
    omega
theorem SeaS.seal_size (S : SeaS) (k n b t : List UInt8) : (S.seal k n b t).count + (S.seal k n b t).book.length + (S.seal k n b t).kids.length ≤ S.count + S.book.length + S.kids.length + 2 := by
  have h1 := S.seal_count k n b t
  have h2 := S.seal_len k n b t
  rw [S.seal_kids]
  omega
/-- All but the first byte. -/
theorem BA.tail {A : Nat → Prop} {w : World} {g n c : Nat} {l : List UInt8} (h : BA A w (some ⟨g, 0, none⟩) (n + 1) (c + 1) l) : BA A w (some ⟨g, 1, none⟩) n c (l.drop 1) := by
  obtain ⟨⟨h1, h2, h3, h4, h5⟩, h6⟩ := h
  refine ⟨⟨by rw [List.length_drop, h1]; omega, by omega, by unfold maxLen at *; omega, fun e => by simp at e, fun i hi => ⟨g, 1, rfl, ?_⟩⟩, fun hm => ?_⟩
  · obtain ⟨b, o, he, hc⟩ := h5 (i + 1) (by omega)
    simp only [Option.some.injEq, Addr.mk.injEq] at he
    obtain ⟨rfl, rfl, _⟩ := he
    rw [show 0 + (i + 1) = 1 + i from by omega] at hc
    rw [hc]
    congr 2
    unfold bt
    simp [List.getD_eq_getElem?_getD]
  · obtain ⟨x, hx, ha, hl⟩ := h6 (by omega)
    simp only [Option.some.injEq] at hx
    subst hx
    exact ⟨_, rfl, ha, hl⟩

theorem Kp.later {F G : Nat → Prop} {w a b : World} (h : Kp F w a) (k : Kp G a b) (hG : ∀ j, G j → w.heap.size ≤ j) : Kp F w b :=
  ⟨k.os.trans h.os, k.tape.trans h.tape, k.output.trans h.output, Nat.le_trans h.size k.size, fun i hi hn => (k.block i (Nat.lt_of_lt_of_le hi h.size) (fun hg => by have := hG i hg; omega)).trans (h.block i hi hn)⟩
/-- What the reference's Seal and Open answer, whatever it is. -/
def GR (A : Nat → Prop) (S' : SeaS) (L : List UInt8) (cd : Int) (w : World) (e : Ending) (w' : World) : Prop := ∃ d' a m c, e = .returned (.tuple #[rsV S' d', .slice a m c, .int .i64 cd]) ∧ RS A w' S' d' ∧ BA A w' a m c L ∧ Below w.heap.size w w'
/-- What the program's answer. -/
def GP (U : Nat → Prop) (r : Nat) (S' : SeaS) (M : SeaM) (L : List UInt8) (cd : Int) (w : World) (e : Ending) (w' : World) : Prop := ∃ a m c, e = .returned (.tuple #[.slice a m c, .int .i64 cd]) ∧ BA (fun j => w.heap.size ≤ j) w' a m c L ∧ Se U w' r S' M ∧ Kp U w w'
theorem Nx.refl {S : SeaS} (h : S.Ok) : Nx S S := ⟨h, rfl, by omega, fun _ => rfl⟩
/-- Seal, of both. -/
theorem seals2 {S : SeaS} (hok : S.Ok) (hn : S.count + S.book.length + S.kids.length ≤ 900) (k n b t : List UInt8) (nk : Nat) (hk : k.length = nk) (zk : nk ≤ 1000) (hnl : n.length = 12) (zt : t.length ≤ 60) :
    ∃ S' L cd, Nx S S' ∧ L.length ≤ 100 ∧
      (∀ (w : World) (A : Nat → Prop) (d : Du) (ak an ab at' : Option Addr) (ck cn nb cb nt ct : Nat), (∀ j, w.heap.size ≤ j → A j) → RS A w S d → BA A w ak nk ck k → BA A w an 12 cn n → BA A w ab nb cb b → BA A w at' nt ct t → nb ≤ 300 → nt ≤ 300 → Calls Tryz.prog 22 #[rsV S d, .slice ak nk ck, .slice an 12 cn, .slice ab nb cb, .slice at' nt ct] w (GR A S' L cd w)) ∧
      (∀ (w : World) (U : Nat → Prop) (r : Nat) (M : SeaM) (ak an ab at' : Option Addr) (ck cn nb cb nt ct : Nat), Se U w r S M → BA (fun j => ¬ U j) w ak nk ck k → BA (fun j => ¬ U j) w an 12 cn n → BA (fun j => ¬ U j) w ab nb cb b → BA (fun j => ¬ U j) w at' nt ct t → nb ≤ 300 → nt ≤ 300 → Calls Tryz.prog 12 #[.pointer (some ⟨r, 0, none⟩), .slice ak nk ck, .slice an 12 cn, .slice ab nb cb, .slice at' nt ct] w (GP U r S' M L cd w)) := by
  by_cases h32 : nk = 32
  · subst h32
    refine ⟨S.seal k n b t, S.made k n b t, 0, ⟨hok.seal (by omega) _ _ _ _, rfl, S.seal_size k n b t, fun _ => rfl⟩, by rw [SeaS.made_len hk hnl]; omega, ?_, ?_⟩
    · intro w A d ak an ab at' ck cn nb cb nt ct hA hR h1 h2 h3 h4 z3 z4
      exact (rSeal12 w hA hR h1 h2 h3 h4 z3 z4 (by omega) (by omega)).mono fun e w' h => h
    · intro w U r M ak an ab at' ck cn nb cb nt ct hS h1 h2 h3 h4 z3 z4
      refine (oSSeal w hS hok h1 h2 h3 h4 z3 z4 (by omega)).mono ?_
      rintro e w' ⟨a, m, c, he, ho, hs, hkp⟩
      exact ⟨a, m, c, he, ho.ba, hs, hkp⟩
  · refine ⟨S, [], 17, Nx.refl hok, by simp, ?_, ?_⟩
    · intro w A d ak an ab at' ck cn nb cb nt ct hA hR h1 h2 h3 h4 z3 z4
      refine (rSeal12Not w hR (by omega) h32).mono ?_
      rintro e w' ⟨he, hb⟩
      exact ⟨d, none, 0, 0, he, hR.grow hb, BA.nil _ _, hb⟩
    · intro w U r M ak an ab at' ck cn nb cb nt ct hS h1 h2 h3 h4 z3 z4
      refine (oSSealNot w (by omega) (by omega) (fun h => h32 h.1)).mono ?_
      rintro e w' ⟨he, rfl⟩
      exact ⟨none, 0, 0, he, BA.nil _ _, hS, Kp.refl _ _⟩
/-- Open, of both. -/
theorem opens2 {S : SeaS} (hok : S.Ok) (hn : S.count + S.book.length + S.kids.length ≤ 900) (k n b t : List UInt8) (nk : Nat) (hk : k.length = nk) (zk : nk ≤ 1000) (hnl : n.length = 12) :
    ∃ S' L cd, Nx S S' ∧
      (∀ (w : World) (A : Nat → Prop) (d : Du) (ak an ab at' : Option Addr) (ck cn nb cb nt ct : Nat), (∀ j, w.heap.size ≤ j → A j) → RS A w S d → Bs w ak nk ck k → Bs w an 12 cn n → Bs w ab nb cb b → Bs w at' nt ct t → nb ≤ 300 → nt ≤ 300 → Calls Tryz.prog 24 #[rsV S d, .slice ak nk ck, .slice an 12 cn, .slice ab nb cb, .slice at' nt ct] w (GR A S' L cd w)) ∧
      (∀ (w : World) (U : Nat → Prop) (r : Nat) (M : SeaM) (ak an ab at' : Option Addr) (ck cn nb cb nt ct : Nat), Se U w r S M → Bs w ak nk ck k → Bs w an 12 cn n → Bs w ab nb cb b → Bs w at' nt ct t → nb ≤ 300 → nt ≤ 300 → Calls Tryz.prog 15 #[.pointer (some ⟨r, 0, none⟩), .slice ak nk ck, .slice an 12 cn, .slice ab nb cb, .slice at' nt ct] w (GP U r S' M L cd w)) := by
  by_cases h32 : nk = 32
  · subst h32
    refine ⟨S.opened k n b t, (S.opens k n b t).getD [], if (S.opens k n b t).isSome then 0 else 6, ⟨hok.opened _ _ _ _, rfl, by show S.count + S.book.length + S.kids.length ≤ _; omega, fun hi => by rw [SeaS.opened_ideal hi]⟩, ?_, ?_⟩
    · intro w A d ak an ab at' ck cn nb cb nt ct hA hR h1 h2 h3 h4 z3 z4
      refine (rOpen12 w hA hR h1 h2 h3 h4 z3 z4 (by omega)).mono ?_
      rintro e w' ⟨a, m, c, he, hr, hb, hq⟩
      exact ⟨d, a, m, c, he, hr, hb, hq⟩
    · intro w U r M ak an ab at' ck cn nb cb nt ct hS h1 h2 h3 h4 z3 z4
      exact (oSOpen w hS h1 h2 h3 h4 z3 z4).mono fun e w' h => h
  · refine ⟨S, [], 17, Nx.refl hok, ?_, ?_⟩
    · intro w A d ak an ab at' ck cn nb cb nt ct hA hR h1 h2 h3 h4 z3 z4
      refine (rOpen12Not w hR (by omega) h32).mono ?_
      rintro e w' ⟨he, hb⟩
      exact ⟨d, none, 0, 0, he, hR.grow hb, BA.nil _ _, hb⟩
    · intro w U r M ak an ab at' ck cn nb cb nt ct hS h1 h2 h3 h4 z3 z4
      refine (oSOpenNot w (by omega) (by omega) (fun h => h32 h.1)).mono ?_
      rintro e w' ⟨he, rfl⟩
      exact ⟨none, 0, 0, he, BA.nil _ _, hS, Kp.refl _ _⟩
theorem Bs.any {w : World} {a : Option Addr} {m c : Nat} {l : List UInt8} (h : Bs w a m c l) : BA (fun j => ¬ False) w a m c l := ⟨h, fun hm => by
  obtain ⟨x, o, ha, hlt, _⟩ := h.at hm
  exact ⟨_, ha, fun f => f, hlt⟩⟩
/-- Derive, of both: the program writes V alone. -/
theorem derives2 {U A : Nat → Prop} (hUA : ∀ j, A j → ¬ U j) {S : SeaS} (hok : S.Ok) (hn : S.count + S.book.length + S.kids.length ≤ 900) (k : List UInt8) (ls : List (List UInt8)) (zl : tot ls ≤ 60000) :
    ∃ (S' : SeaS) (L : List UInt8) (V : Nat → Prop), Nx S S' ∧ (∀ j, V j → U j) ∧
      (∀ (w : World) (d : Du) (ak ap : Option Addr) (nk ck np cp : Nat), (∀ j, w.heap.size ≤ j → A j) → RS A w S d → BA A w ak nk ck k → Bss w ap np cp ls → nk ≤ 1000 → np ≤ 1000 → Calls Tryz.prog 25 #[rsV S d, .slice ak nk ck, .slice ap np cp] w fun e w' => ∃ d' a m c, e = .returned (.tuple #[rsV S' d', .slice a m c]) ∧ RS A w' S' d' ∧ BA (fun j => ¬ V j) w' a m c L ∧ Below w.heap.size w w') ∧
      (∀ (w : World) (r : Nat) (M : SeaM) (ak ap : Option Addr) (nk ck np cp : Nat), Kon w → Se U w r S M → Bs w ak nk ck k → Bss w ap np cp ls → nk ≤ 1000 → np ≤ 1000 → Calls Tryz.prog 16 #[.pointer (some ⟨r, 0, none⟩), .slice ak nk ck, .slice ap np cp] w fun e w' => ∃ a m c, e = .returned (.slice a m c) ∧ Bs w' a m c L ∧ Se U w' r S' M ∧ Kp V w w') := by
  cases hi : S.ideal with
  | true =>
    refine ⟨S.derive k (packL ls), noiseL (S.num k (packL ls)) 32, U, ⟨hok.derive (by omega) _ _, by rw [SeaS.derive_ideal], S.derive_kids _ _, fun _ => ?_⟩, fun _ h => h, ?_, ?_⟩
    · unfold SeaS.derive
      split <;> rfl
    · intro w d ak ap nk ck np cp hA hR h1 h2 z1 z2
      refine (rDerive12I w hA hR hi h1 h2 z1 z2 zl (by omega) (by omega)).mono ?_
      rintro e w' ⟨d', a, m, c, he, hr, hb, hq⟩
      exact ⟨d', a, m, c, he, hr, hb.mono' fun j _ hj => hUA j hj, hq⟩
    · intro w r M ak ap nk ck np cp _ hS h1 h2 z1 z2
      refine (oSDeriveI w hS hok hi h1 h2 z1 z2 zl (by omega)).mono ?_
      rintro e w' ⟨a, m, c, he, ho, hs, hk⟩
      exact ⟨a, m, c, he, ho.toBs, hs, hk⟩
  | false =>
    refine ⟨S, expI (macL [] k) (packL ls) 32, fun _ => False, Nx.refl hok, fun _ h => h.elim, ?_, ?_⟩
    · intro w d ak ap nk ck np cp hA hR h1 h2 z1 z2
      refine (rDerive12R w hR hi h1.1 h2 z1 z2 zl).mono ?_
      rintro e w' ⟨a, m, c, he, hb, hq⟩
      exact ⟨d, a, m, c, he, hR.grow hq, hb.any, hq⟩
    · intro w r M ak ap nk ck np cp hK hS h1 h2 z1 z2
      refine (oSDeriveR w hK hS hi h1 h2 z1 z2 zl).mono ?_
      rintro e w' ⟨a, m, c, he, hb, hq⟩
      exact ⟨a, m, c, he, hb, hS.grow hq, Kp.of_below hq⟩

end Go.Proofs.YtjpejheipkfanaaGreatDoor
