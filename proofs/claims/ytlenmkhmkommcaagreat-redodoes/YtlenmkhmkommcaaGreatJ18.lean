/-
  8 texts in one. No statement of the seat is proved here.
-/
import Derived.Test.YtlenmkhmkommcaaGreatJ17

/-
  Contracts of layer 12's program's Seal and Open. Conditions: what stands beside and texts of at most 600 bytes; a book that is not too long.
-/
namespace Go.Proofs.YtlenmkhmkommcaaGreat
open Go.RowKit
set_option linter.unusedVariables false

theorem builtPl (k n : ByteArray) : Tryz.prog.built 159 [(0, .string k), (1, .string n)] = some #[.string k, .string n] := by kernel_rfl
theorem builtCt (k n : ByteArray) : Tryz.prog.built 161 [(0, .string k), (1, .string n)] = some #[.string k, .string n] := by kernel_rfl
theorem Own.kp {w w' : World} {base : Nat} {v : Value} {l : List UInt8} (h : Own w base v l) {F : Nat → Prop} (k : Kp F w w') (hF : ∀ j, F j → j < base) : Own w' base v l := by
  obtain ⟨h1, h2⟩ := h
  refine ⟨h1, ?_⟩
  rcases h2 with h2 | ⟨g, cap, cur, hv, hg, hh, r⟩
  · exact Or.inl h2
  · exact Or.inr ⟨g, cap, cur, hv, hg, by rw [k.block g (Array.getElem?_eq_some_iff.1 hh).1 fun e => by have := hF g e; omega]; exact hh, r⟩
theorem Own.ba {w : World} {base : Nat} {p : Option Addr} {m q : Nat} {l : List UInt8} (h : Own w base (.slice p m q) l) : BA (fun j => base ≤ j) w p m q l := (h.b5 (A := fun j => base ≤ j) fun j hj _ => hj).ba
theorem SeaS.tells_seal {S : SeaS} (h : S.Ok) (k n b t : List UInt8) : (S.reused || S.tells k n b t) = (S.reused || S.other k n b t) := (h.first_tells k n b t).symm
theorem SeaS.made_fit {S : SeaS} {k n b t : List UInt8} (hk : k.length = 32) (hn : n.length = 12) (ht : t.length ≤ 600) : fitW (S.made k n b t) := by
  unfold fitW SeaS.made
  split
  · rw [noiseL_length]
    omega
  · rw [sealL_length (keyF_length hk) hn]
    omega
theorem SeaS.Ok.made_new {S : SeaS} (h : S.Ok) (k n b t : List UInt8) (hi : S.ideal = true) : S.known k n b (S.made k n b t) = none := by
  have : S.made k n b t = noiseL (S.count + 1) (t.length + 16) := by unfold SeaS.made; rw [if_pos hi]
  rw [this]
  exact h.fresh hi k n b t.length

set_option maxRecDepth 100000 in
set_option maxHeartbeats 2000000 in
theorem oSSeal (w : World) {U : Nat → Prop} {r : Nat} {S : SeaS} {M : SeaM} (h : Se U w r S M) (hok : S.Ok) {k n b t : List UInt8} {ak an ab at' : Option Addr} {ck cn nb cb nt ct : Nat} (bk : BA (fun j => ¬ U j) w ak 32 ck k) (bn : BA (fun j => ¬ U j) w an 12 cn n) (bb : BA (fun j => ¬ U j) w ab nb cb b) (bt' : BA (fun j => ¬ U j) w at' nt ct t) (zb : nb ≤ 600) (zt : nt ≤ 600) (hc : S.count + S.book.length + 3 ≤ 1000000) (hid : Hid (S.ideal = true) := by first | assumption | (show _ = _; rfl)) :
    Calls Tryz.prog 44 #[.pointer (some ⟨r, 0, none⟩), .slice ak 32 ck, .slice an 12 cn, .slice ab nb cb, .slice at' nt ct] w (Mades U r (S.seal k n b t) M (S.made k n b t) w) := by
  have HS : Hid (Se U w r S M) := h
  have CF : Hid (Calls Tryz.prog 81 #[.slice ak 32 ck, .slice an 12 cn] w fun e w' => e = .returned (.bool true) ∧ w = w') := oFit w ak an 32 ck 12 cn (by omega) (by omega)
  have CM : Hid (Calls Tryz.prog 82 #[.pointer (some ⟨r, 0, none⟩), .slice ak 32 ck, .slice an 12 cn, .slice ab nb cb, .slice at' nt ct] w (Mades U r { S with count := S.next } M (S.made k n b t) w)) := oMade w h bk.1 bn.1 bb.1 bt'.1 zb zt (by omega)
  have HK : Hid (BA (fun j => ¬ U j) w ak 32 ck k) := bk
  have HN : Hid (BA (fun j => ¬ U j) w an 12 cn n) := bn
  have HB : Hid (BA (fun j => ¬ U j) w ab nb cb b) := bb
  have HT : Hid (BA (fun j => ¬ U j) w at' nt ct t) := bt'
  have FM : Hid (fitW (S.made k n b t) ∧ fitW k ∧ fitW n ∧ fitW b ∧ fitW t) := by
    have l1 := bk.1.len
    have l2 := bn.1.len
    have l3 := bb.1.len
    have l4 := bt'.1.len
    refine ⟨SeaS.made_fit l1 l2 (by omega), ?_, ?_, ?_, ?_⟩ <;> (unfold fitW; omega)
  have HF : Hid (S.ideal = true → S.known k n b (S.made k n b t) = none) := hok.made_new k n b t
  have HR : Hid ((S.reused || S.tells k n b t) = (S.reused || S.other k n b t)) := SeaS.tells_seal hok k n b t
  have hnx : S.next ≤ S.count + 1 := by unfold SeaS.next; split <;> omega
  clear h bk bn bb bt'
  go_enter Tryz.func44, Tryz.ntmps44
  go_wp2_with fail
  refine CF.out.mono ?_
  rintro e w1 ⟨rfl, rfl⟩
  go_wp2_with fail
  refine CM.out.mono ?_
  rintro e w1 ⟨as', ms, cs', rfl, os, hS1, kp1⟩
  have K1 : Hid (Bs w1 ak 32 ck k) := (HK.out.keep kp1.size fun j hj hu => kp1.block j hj hu).1
  have N1 : Hid (Bs w1 an 12 cn n) := (HN.out.keep kp1.size fun j hj hu => kp1.block j hj hu).1
  have B1 : Hid (Bs w1 ab nb cb b) := (HB.out.keep kp1.size fun j hj hu => kp1.block j hj hu).1
  have T1 : Hid (Bs w1 at' nt ct t) := (HT.out.keep kp1.size fun j hj hu => kp1.block j hj hu).1
  have O1 : Hid (Own w1 w.heap.size (.slice as' ms cs') (S.made k n b t)) := os
  have S1 : Hid (Se U w1 r { S with count := S.next } M) := hS1
  have KP1 : Hid (Kp U w w1) := kp1
  have lr := hS1.blk.lt
  clear os hS1 kp1 CM CF HK HN HB HT
  go_wp2_with fail
  refine regionE 14 (S := Grows w1) (by kernel_rfl) (Below.refl _ w1).drew ?_
  refine takeT 0 (some 30) (.pointer (some ⟨r, 0, none⟩)) rfl rfl (by kernel_rfl) (fun _ _ _ h => h) (ans_plain (by rfl) (fun w _ => rfl)) ?_
  simp only [Act.put, List.setIfInBounds_toArray, List.set_cons_zero, List.set_cons_succ]
  refine takeT 1 (some 31) (.pointer (some ⟨r, 0, none⟩)) rfl rfl (by kernel_rfl) (fun _ _ _ h => h) (ans_plain (by rfl) (fun w _ => by unfold execOp; go_simp)) ?_
  simp only [Act.put, List.setIfInBounds_toArray, List.set_cons_zero, List.set_cons_succ]
  refine takeT 2 (some 32) (.pointer (some ⟨r, 2, none⟩)) rfl rfl (by kernel_rfl) (fun _ _ _ h => h) (ans_plain (by rfl) (fun w _ => by unfold execOp; go_simp)) ?_
  simp only [Act.put, List.setIfInBounds_toArray, List.set_cons_zero, List.set_cons_succ]
  refine takeT 3 (some 33) (.slice ak 32 ck) rfl rfl (by kernel_rfl) (fun _ _ _ h => h) (ans_plain (by rfl) (fun w _ => rfl)) ?_
  simp only [Act.put, List.setIfInBounds_toArray, List.set_cons_zero, List.set_cons_succ]
  refine takeT 4 (some 34) (sv k) rfl rfl (by kernel_rfl) (fun _ _ _ h => h) (ans_str (.tmp 33) rfl (by rfl) ak 32 ck k rfl (fun u hu => K1.out.below hu (Nat.le_refl _))) ?_
  simp only [Act.put, List.setIfInBounds_toArray, List.set_cons_zero, List.set_cons_succ]
  refine takeT 5 (some 35) (.slice an 12 cn) rfl rfl (by kernel_rfl) (fun _ _ _ h => h) (ans_plain (by rfl) (fun w _ => rfl)) ?_
  simp only [Act.put, List.setIfInBounds_toArray, List.set_cons_zero, List.set_cons_succ]
  refine takeT 6 (some 36) (sv n) rfl rfl (by kernel_rfl) (fun _ _ _ h => h) (ans_str (.tmp 35) rfl (by rfl) an 12 cn n rfl (fun u hu => N1.out.below hu (Nat.le_refl _))) ?_
  simp only [Act.put, List.setIfInBounds_toArray, List.set_cons_zero, List.set_cons_succ]
  refine takeT 7 (some 37) (.agg #[sv k, sv n]) rfl rfl (by kernel_rfl) (fun _ _ _ h => h) (ans_bdK 159 [(0, .tmp 34), (1, .tmp 36)] [(0, sv k), (1, sv n)] _ rfl (by rfl) rfl (builtPl _ _)) ?_
  simp only [Act.put, List.setIfInBounds_toArray, List.set_cons_zero, List.set_cons_succ]
  refine takeT 8 (some 38) (.slice ab nb cb) rfl rfl (by kernel_rfl) (fun _ _ _ h => h) (ans_plain (by rfl) (fun w _ => rfl)) ?_
  simp only [Act.put, List.setIfInBounds_toArray, List.set_cons_zero, List.set_cons_succ]
  refine takeT 9 (some 39) (sv b) rfl rfl (by kernel_rfl) (fun _ _ _ h => h) (ans_str (.tmp 38) rfl (by rfl) ab nb cb b rfl (fun u hu => B1.out.below hu (Nat.le_refl _))) ?_
  simp only [Act.put, List.setIfInBounds_toArray, List.set_cons_zero, List.set_cons_succ]
  refine takeT 10 (some 40) (.slice at' nt ct) rfl rfl (by kernel_rfl) (fun _ _ _ h => h) (ans_plain (by rfl) (fun w _ => rfl)) ?_
  simp only [Act.put, List.setIfInBounds_toArray, List.set_cons_zero, List.set_cons_succ]
  refine takeT 11 (some 41) (sv t) rfl rfl (by kernel_rfl) (fun _ _ _ h => h) (ans_str (.tmp 40) rfl (by rfl) at' nt ct t rfl (fun u hu => T1.out.below hu (Nat.le_refl _))) ?_
  simp only [Act.put, List.setIfInBounds_toArray, List.set_cons_zero, List.set_cons_succ]
  refine takeT 12 (some 42) (.agg #[sv b, sv t]) rfl rfl (by kernel_rfl) (fun _ _ _ h => h) (ans_bdK 161 [(0, .tmp 39), (1, .tmp 41)] [(0, sv b), (1, sv t)] _ rfl (by rfl) rfl (builtCt _ _)) ?_
  simp only [Act.put, List.setIfInBounds_toArray, List.set_cons_zero, List.set_cons_succ]
  refine takeT 13 (some 43) (.slice as' ms cs') rfl rfl (by kernel_rfl) (fun _ _ _ h => h) (ans_plain (by rfl) (fun w _ => rfl)) ?_
  simp only [Act.put, List.setIfInBounds_toArray, List.set_cons_zero, List.set_cons_succ]
  refine lastC 14 (some 44) 83 #[.tmp 32, .tmp 37, .tmp 42, .tmp 43] #[95, 159, 161, 26] #[.pointer (some ⟨r, 2, none⟩), kvP (k, n), ctv b t, .slice as' ms cs'] rfl rfl rfl (by rfl) (by rfl) (by kernel_rfl) (by kernel_rfl) (by kernel_rfl) (by kernel_rfl) Tryz.call83 fun w2 hg2 hs2 => ?_
  refine (oAddB w2 (S1.out.grow hs2) (O1.out.toBs.below hs2 (Nat.le_refl _)) FM.out.2.1 FM.out.2.2.1 FM.out.2.2.2.1 FM.out.2.2.2.2 FM.out.1 HF.out (by dsimp only; omega)).mono ?_
  rintro e w3 ⟨rfl, hS3, kp3⟩
  refine ⟨_, rfl, fun w4 hg4 => ?_⟩
  simp only [Act.put, List.setIfInBounds_toArray, List.set_cons_zero, List.set_cons_succ]
  have hlt := HS.out.lt
  have KP4 : Hid (Kp U w w4) := ((KP1.out.trans (Kp.of_below hs2)).trans kp3).trans (Kp.of_below hg4)
  have O4 : Hid (Own w4 w.heap.size (.slice as' ms cs') (S.made k n b t)) := ((O1.out.below hs2 (Nat.le_refl _)).kp kp3 hlt).below hg4 (Nat.le_refl _)
  have S4 : Hid (Se U w4 r (({ S with count := S.next } : SeaS).add k n b t (S.made k n b t)) M) := hS3.grow hg4
  have HE : Hid (({ S with count := S.next } : SeaS).tells k n b t = S.tells k n b t) := rfl
  have hbk := S4.out.blk
  have c5 : w4.cell? ⟨r, 5, none⟩ = some (.bool S.reused) := hbk.cell 5
  have f5 := hbk.free 5
  have l4 := hbk.lt
  have B5' : Hid (Blk w4 r (seC (({ S with count := S.next } : SeaS).add k n b t (S.made k n b t)) M) 100) := hbk
  rw [HE.out]
  clear hS3 kp3 hg4 hs2 hg2 K1 N1 B1 T1 O1 S1 KP1 lr hbk HE hlt
  cases htl : S.tells k n b t with
  | true =>
    have hk5 : Kp (fun j => j = r) w4 (w4.setCell ⟨r, 5, none⟩ (.bool true)) := Kp.of_grown (but_set w4 r 5 _)
    have hes : S.seal k n b t = { ({ S with count := S.next } : SeaS).add k n b t (S.made k n b t) with reused := true } := by
      rw [S.seal_add, ← HR.out, htl, Bool.or_true]
    have S5 : Hid (Se U (w4.setCell ⟨r, 5, none⟩ (.bool true)) r (S.seal k n b t) M) := by
      rw [hes]
      refine S4.out.put hk5 ?_ rfl rfl rfl S4.out.bound
      exact B5'.out.setC 5 (.bool true)
    have O5 : Hid (Own (w4.setCell ⟨r, 5, none⟩ (.bool true)) w.heap.size (.slice as' ms cs') (S.made k n b t)) := O4.out.kp hk5 fun j hj => by rw [hj]; exact HS.out.lt r HS.out.inR
    have KP5 : Hid (Kp U w (w4.setCell ⟨r, 5, none⟩ (.bool true))) := KP4.out.trans (hk5.mono fun j _ e => by rw [e]; exact HS.out.inR)
    clear hk5 hes htl
    go_wp2_with fail
    go_ret2
    exact ⟨as', ms, cs', rfl, O5.out, S5.out, KP5.out⟩
  | false =>
    have hes : S.seal k n b t = ({ S with count := S.next } : SeaS).add k n b t (S.made k n b t) := by
      rw [S.seal_add, ← HR.out, htl, Bool.or_false]
      rfl
    have S5 : Hid (Se U w4 r (S.seal k n b t) M) := by
      show Se _ _ _ _ _
      rw [hes]
      exact S4.out
    clear hes htl
    go_wp2_with fail
    go_ret2
    exact ⟨as', ms, cs', rfl, O4.out, S5.out, KP4.out⟩

end Go.Proofs.YtlenmkhmkommcaaGreat

/-
  The contract of layer 12's program's Open. Conditions: what stands beside and what is opened of at most 600 bytes.
-/
namespace Go.Proofs.YtlenmkhmkommcaaGreat
open Go.RowKit
set_option linter.unusedVariables false

/-- What Open answers: the text, or that it is not right. -/
def OpensS (U : Nat → Prop) (r : Nat) (S' : SeaS) (M : SeaM) (l : Option (List UInt8)) (w : World) (e : Ending) (w' : World) : Prop := ∃ a m c, e = .returned (.tuple #[.slice a m c, .int .i64 (if l.isSome then 0 else 6)]) ∧ BA (fun j => w.heap.size ≤ j) w' a m c (l.getD []) ∧ Se U w' r S' M ∧ Kp U w w'
theorem SeaS.opened_ideal {S : SeaS} (hi : S.ideal = true) (k n b s : List UInt8) : S.opened k n b s = S := by
  obtain ⟨i, bk, kd, c, x, f⟩ := S
  dsimp only at hi
  subst hi
  simp [SeaS.opened]
theorem SeaS.opened_real {S : SeaS} (hi : S.ideal = false) (k n b s : List UInt8) : S.opened k n b s = { S with forged := S.forged || ((opensL k n b s).isSome && !(S.known k n b s).isSome) } := by
  unfold SeaS.opened
  rw [hi]
  cases S.known k n b s <;> simp
theorem BA.nil (A : Nat → Prop) (w : World) : BA A w none 0 0 [] := ⟨Bs.nil w, fun h => by omega⟩
theorem BA.kp {A F : Nat → Prop} {w w' : World} {p : Option Addr} {m q : Nat} {b : List UInt8} (h : BA A w p m q b) (k : Kp F w w') (hF : ∀ j, A j → ¬ F j) : BA A w' p m q b := h.keep k.size fun j hj ha => k.block j hj (hF j ha)
theorem BA.below' {A : Nat → Prop} {w w' : World} {p : Option Addr} {m q : Nat} {b : List UInt8} (h : BA A w p m q b) (hb : Below w.heap.size w w') : BA A w' p m q b := h.keep hb.size fun j hj _ => hb.block j hj

set_option maxRecDepth 100000 in
set_option maxHeartbeats 4000000 in
theorem oSOpen (w : World) {U : Nat → Prop} {r : Nat} {S : SeaS} {M : SeaM} (h : Se U w r S M) {k n b s : List UInt8} {ak an ab as' : Option Addr} {ck cn nb cb ns cs' : Nat} (hk : Bs w ak 32 ck k) (hn : Bs w an 12 cn n) (hb : Bs w ab nb cb b) (hs : Bs w as' ns cs' s) (zb : nb ≤ 600) (zs : ns ≤ 600) (hid : Hid (S.ideal = true) := by first | assumption | (show _ = _; rfl)) :
    Calls Tryz.prog 57 #[.pointer (some ⟨r, 0, none⟩), .slice ak 32 ck, .slice an 12 cn, .slice ab nb cb, .slice as' ns cs'] w (OpensS U r (S.opened k n b s) M (S.opens k n b s) w) := by
  have HS : Hid (Se U w r S M) := h
  have CF : Hid (Calls Tryz.prog 81 #[.slice ak 32 ck, .slice an 12 cn] w fun e w' => e = .returned (.bool true) ∧ w = w') := oFit w ak an 32 ck 12 cn (by omega) (by omega)
  have HK : Hid (Bs w ak 32 ck k) := hk
  have HN : Hid (Bs w an 12 cn n) := hn
  have HB : Hid (Bs w ab nb cb b) := hb
  have HC : Hid (Bs w as' ns cs' s) := hs
  have l1 := hk.len
  have l2 := hn.len
  have l3 := hb.len
  have l4 := hs.len
  obtain ⟨b1, t1, ft1, hid, hfind⟩ := oFindB w h (k := k) (n := n) (b := b) (s := s) (by unfold fitW; omega) (by unfold fitW; omega) (by unfold fitW; omega) (by unfold fitW; omega)
  obtain ⟨kn, hkn⟩ : ∃ kn, kn = (S.known k n b s).isSome := ⟨_, rfl⟩
  rw [← hkn] at hfind
  have CFI : Hid (∀ u, Grows w u → Calls Tryz.prog 92 #[.pointer (some ⟨r, 2, none⟩), kvO (k, n, b, s)] u fun e w' => e = .returned (.tuple #[.agg #[sv b1, sv t1], .bool kn]) ∧ Below u.heap.size u w') := hfind
  have HKN : Hid (kn = (S.known k n b s).isSome ∧ (S.ideal = true → ∀ t, S.known k n b s = some t → t1 = t)) := ⟨hkn, hid⟩
  have lr := h.blk.lt
  have ft2 : t1.length ≤ 1000000 := ft1
  clear h hk hn hb hs hfind hid hkn ft1 l1 l2 l3 l4
  go_enter Tryz.func57, Tryz.ntmps57
  go_wp2_with fail
  refine CF.out.mono ?_
  rintro e w1 ⟨rfl, rfl⟩
  clear CF
  go_wp2_with fail
  refine regionG (S := Grows w) (by kernel_rfl) (Below.refl _ w).drew ?_
  refine takeG 0 (some 21) (.pointer (some ⟨r, 0, none⟩)) rfl rfl (by kernel_rfl) (by kernel_rfl) (by kernel_rfl) (fun _ _ _ h => h) (ans_plain (by rfl) (fun w _ => rfl)) ?_
  simp only [Act.put, List.setIfInBounds_toArray, List.set_cons_zero, List.set_cons_succ]
  refine takeG 1 (some 22) (.pointer (some ⟨r, 0, none⟩)) rfl rfl (by kernel_rfl) (by kernel_rfl) (by kernel_rfl) (fun _ _ _ h => h) (ans_plain (by rfl) (fun w _ => by unfold execOp; go_simp)) ?_
  simp only [Act.put, List.setIfInBounds_toArray, List.set_cons_zero, List.set_cons_succ]
  refine takeG 2 (some 23) (.pointer (some ⟨r, 2, none⟩)) rfl rfl (by kernel_rfl) (by kernel_rfl) (by kernel_rfl) (fun _ _ _ h => h) (ans_plain (by rfl) (fun w _ => by unfold execOp; go_simp)) ?_
  simp only [Act.put, List.setIfInBounds_toArray, List.set_cons_zero, List.set_cons_succ]
  refine takeG 3 (some 24) (.slice ak 32 ck) rfl rfl (by kernel_rfl) (by kernel_rfl) (by kernel_rfl) (fun _ _ _ h => h) (ans_plain (by rfl) (fun w _ => rfl)) ?_
  simp only [Act.put, List.setIfInBounds_toArray, List.set_cons_zero, List.set_cons_succ]
  refine takeG 4 (some 25) (sv k) rfl rfl (by kernel_rfl) (by kernel_rfl) (by kernel_rfl) (fun _ _ _ h => h) (ans_str (.tmp 24) rfl (by rfl) ak 32 ck k rfl (fun u hu => HK.out.below hu (Nat.le_refl _))) ?_
  simp only [Act.put, List.setIfInBounds_toArray, List.set_cons_zero, List.set_cons_succ]
  refine takeG 5 (some 26) (.slice an 12 cn) rfl rfl (by kernel_rfl) (by kernel_rfl) (by kernel_rfl) (fun _ _ _ h => h) (ans_plain (by rfl) (fun w _ => rfl)) ?_
  simp only [Act.put, List.setIfInBounds_toArray, List.set_cons_zero, List.set_cons_succ]
  refine takeG 6 (some 27) (sv n) rfl rfl (by kernel_rfl) (by kernel_rfl) (by kernel_rfl) (fun _ _ _ h => h) (ans_str (.tmp 26) rfl (by rfl) an 12 cn n rfl (fun u hu => HN.out.below hu (Nat.le_refl _))) ?_
  simp only [Act.put, List.setIfInBounds_toArray, List.set_cons_zero, List.set_cons_succ]
  refine takeG 7 (some 28) (.agg #[sv k, sv n]) rfl rfl (by kernel_rfl) (by kernel_rfl) (by kernel_rfl) (fun _ _ _ h => h) (ans_bdK 159 [(0, .tmp 25), (1, .tmp 27)] [(0, sv k), (1, sv n)] _ rfl (by rfl) rfl (builtPl _ _)) ?_
  simp only [Act.put, List.setIfInBounds_toArray, List.set_cons_zero, List.set_cons_succ]
  refine takeG 8 (some 29) (.slice ab nb cb) rfl rfl (by kernel_rfl) (by kernel_rfl) (by kernel_rfl) (fun _ _ _ h => h) (ans_plain (by rfl) (fun w _ => rfl)) ?_
  simp only [Act.put, List.setIfInBounds_toArray, List.set_cons_zero, List.set_cons_succ]
  refine takeG 9 (some 30) (sv b) rfl rfl (by kernel_rfl) (by kernel_rfl) (by kernel_rfl) (fun _ _ _ h => h) (ans_str (.tmp 29) rfl (by rfl) ab nb cb b rfl (fun u hu => HB.out.below hu (Nat.le_refl _))) ?_
  simp only [Act.put, List.setIfInBounds_toArray, List.set_cons_zero, List.set_cons_succ]
  refine takeG 10 (some 31) (.slice as' ns cs') rfl rfl (by kernel_rfl) (by kernel_rfl) (by kernel_rfl) (fun _ _ _ h => h) (ans_plain (by rfl) (fun w _ => rfl)) ?_
  simp only [Act.put, List.setIfInBounds_toArray, List.set_cons_zero, List.set_cons_succ]
  refine takeG 11 (some 32) (sv s) rfl rfl (by kernel_rfl) (by kernel_rfl) (by kernel_rfl) (fun _ _ _ h => h) (ans_str (.tmp 31) rfl (by rfl) as' ns cs' s rfl (fun u hu => HC.out.below hu (Nat.le_refl _))) ?_
  simp only [Act.put, List.setIfInBounds_toArray, List.set_cons_zero, List.set_cons_succ]
  refine takeG 12 (some 33) (.agg #[sv k, sv n, sv b, sv s]) rfl rfl (by kernel_rfl) (by kernel_rfl) (by kernel_rfl) (fun _ _ _ h => h) (ans_bdK 168 [(0, .tmp 28), (1, .tmp 30), (2, .tmp 32)] [(0, .agg #[sv k, sv n]), (1, sv b), (2, sv s)] _ rfl (by rfl) rfl (builtOp _ _ _ _)) ?_
  simp only [Act.put, List.setIfInBounds_toArray, List.set_cons_zero, List.set_cons_succ]
  refine takeG 13 (some 34) (.tuple #[.agg #[sv b1, sv t1], .bool kn]) rfl rfl (by kernel_rfl) (by kernel_rfl) (by kernel_rfl) (fun _ _ _ h => h) (ans_fn 92 #[.tmp 23, .tmp 33] #[95, 168] #[.pointer (some ⟨r, 2, none⟩), kvO (k, n, b, s)] rfl (by rfl) (by rfl) Tryz.call92 fun u h => CFI.out u h) ?_
  simp only [Act.put, List.setIfInBounds_toArray, List.set_cons_zero, List.set_cons_succ]
  refine takeG 14 (some 20) (.tuple #[.agg #[sv b1, sv t1], .bool kn]) rfl rfl (by kernel_rfl) (by kernel_rfl) (by kernel_rfl) (fun _ _ _ h => h) (ans_plain (by rfl) (fun w _ => rfl)) ?_
  simp only [Act.put, List.setIfInBounds_toArray, List.set_cons_zero, List.set_cons_succ]
  refine takeG 15 (some 35) (.agg #[sv b1, sv t1]) rfl rfl (by kernel_rfl) (by kernel_rfl) (by kernel_rfl) (fun _ _ _ h => h) (ans_plain (by rfl) (fun w _ => by unfold execOp; go_simp)) ?_
  simp only [Act.put, List.setIfInBounds_toArray, List.set_cons_zero, List.set_cons_succ]
  refine takeG 16 (some 36) (.bool kn) rfl rfl (by kernel_rfl) (by kernel_rfl) (by kernel_rfl) (fun _ _ _ h => h) (ans_plain (by rfl) (fun w _ => by unfold execOp; go_simp)) ?_
  simp only [Act.put, List.setIfInBounds_toArray, List.set_cons_zero, List.set_cons_succ]
  refine alloc1 (fun _ _ h h' => Grows.trans h h') 17 12 (makesCt rfl) (by kernel_rfl) fun x9 w4 hg4 hs4 B9 hx9 => ?_
  simp only [Act.put, List.setIfInBounds_toArray, List.set_cons_zero, List.set_cons_succ]
  refine oneG 18 (by kernel_rfl) fun w5 hg5 hs5 => ?_
  refine opStR 18 161 (.tmp 12) (.tmp 35) 2 rfl rfl rfl rfl x9 _ [sv b1, sv t1] 161 (B9.grows hg5) rfl rfl (two_one _ _) sizeCt rfl rfl fun w6 B9' k6 => ?_
  have hx93 : w.heap.size ≤ x9 := hx9
  have hs6 : Grows w w6 := Below.trans hs5 (k6.below (B := w.heap.size) (Below.size hs5) (fun j hj e => by omega))
  refine ⟨hs6, ?_⟩
  refine takeG 19 (some 13) (.bool kn) rfl rfl (by kernel_rfl) (by kernel_rfl) (by kernel_rfl) (fun _ _ _ h => h) (ans_plain (by rfl) (fun w _ => rfl)) ?_
  simp only [Act.put, List.setIfInBounds_toArray, List.set_cons_zero, List.set_cons_succ]
  refine doneG (by kernel_rfl) fun w7 hg7 hs7 => ?_
  have B97 : Blk w7 x9 [sv b1, sv t1] 161 := B9'.grows hg7
  have c91 : w7.cell? ⟨x9, 1, none⟩ = some (sv t1) := B97.cell 1
  have l9 := B97.lt
  have KB7 : Hid (Below w.heap.size w w7) := hs7
  obtain ⟨cc, w8, hrun, hB8, hsz8, hb8⟩ := str_bytes w7 t1 ft2
  have R8 : Hid (Bs w8 (some ⟨w7.heap.size, 0, none⟩) t1.length cc t1 ∧ w7.heap.size < w8.heap.size) := ⟨hB8, hsz8⟩
  have KB8 : Hid (Below w.heap.size w w8) := KB7.out.trans (hb8.mono KB7.out.size)
  have S8 : Hid (Se U w8 r S M) := HS.out.grow KB8.out
  have hi0 : w8.cell? ⟨r, 0, none⟩ = some (.bool S.ideal) := S8.out.blk.cell 0
  have lr8 := S8.out.blk.lt
  have fg0 : w8.cell? ⟨r, 6, none⟩ = some (.bool S.forged) := S8.out.blk.cell 6
  have ff0 := S8.out.blk.free 6
  clear B9' B9 hg4 hs4 hg5 hs5 k6 hs6 hg7 hs7 hx9 hx93 B97 hB8 hsz8 hb8 CFI
  rcases Bool.eq_false_or_eq_true S.ideal with hi | hi
  · rw [hi] at hi0
    have HO : Hid (S.opens k n b s = S.known k n b s ∧ S.opened k n b s = S) := ⟨by unfold SeaS.opens; rw [if_pos hi], SeaS.opened_ideal hi k n b s⟩
    cases kn with
    | true =>
      have HV : Hid (S.known k n b s = some t1) := by
        show _ = _
        obtain ⟨t0, ht0⟩ := Option.isSome_iff_exists.1 HKN.out.1.symm
        rw [ht0, HKN.out.2 hi t0 ht0]
      clear hi
      go_wp2_with fail
      go_ret2
      refine ⟨_, _, _, by rw [HO.out.1, HV.out]; rfl, ?_, by rw [HO.out.2]; exact S8.out, Kp.of_below KB8.out⟩
      rw [HO.out.1, HV.out]
      exact ⟨R8.out.1, fun _ => ⟨_, rfl, KB7.out.size, R8.out.2⟩⟩
    | false =>
      have HV : Hid (S.known k n b s = none) := by
        show _ = _
        exact Option.not_isSome_iff_eq_none.1 (by rw [← HKN.out.1]; decide)
      clear hi
      go_wp2_with fail
      go_ret2
      refine ⟨_, _, _, by rw [HO.out.1, HV.out]; rfl, ?_, by rw [HO.out.2]; exact S8.out, Kp.of_below KB8.out⟩
      rw [HO.out.1, HV.out]
      exact BA.nil _ _
  · exact absurd (hid.out.symm.trans hi) (by decide)

end Go.Proofs.YtlenmkhmkommcaaGreat

/-
  How sealers outlast what layer 12's statements do around them ('StaS', 'TwoS'); plain laws: what was sealed opens as it was. No condition.
-/
namespace Go.Proofs.YtlenmkhmkommcaaGreat
open Go.RowKit
set_option linter.unusedVariables false

/-- The sealer S in memory that is all newer than w0. -/
structure StaS (w0 w : World) (r : Nat) (U : Nat → Prop) (S : SeaS) (M : SeaM) : Prop where
  se : Se U w r S M
  ok : S.Ok
  base : ∀ j, U j → w0.heap.size ≤ j
  bel : Below w0.heap.size w0 w
theorem StaS.grow {w0 w w' : World} {r : Nat} {U : Nat → Prop} {S : SeaS} {M : SeaM} (h : StaS w0 w r U S M) (k : Below w.heap.size w w') : StaS w0 w' r U S M := ⟨h.se.grow k, h.ok, h.base, h.bel.trans (k.mono h.bel.size)⟩
theorem StaS.after {w0 w w' : World} {r : Nat} {U : Nat → Prop} {S S' : SeaS} {M : SeaM} (h : StaS w0 w r U S M) (hs : Se U w' r S' M) (ho : S'.Ok) (k : Kp U w w') : StaS w0 w' r U S' M :=
  ⟨hs, ho, h.base, below_kp h.bel k h.bel.size fun j hj hU => by have := h.base j hU; omega⟩
theorem StaS.kp {w0 w w' : World} {r : Nat} {U F : Nat → Prop} {S : SeaS} {M : SeaM} (h : StaS w0 w r U S M) (k : Kp F w w') (hF : ∀ j, U j → ¬ F j) (h0 : ∀ j, F j → w0.heap.size ≤ j) : StaS w0 w' r U S M :=
  ⟨h.se.kp k hF, h.ok, h.base, below_kp h.bel k h.bel.size fun j hj hU => by have := h0 j hU; omega⟩
theorem StaS.first {w0 w w' : World} {r : Nat} {U : Nat → Prop} {i : Bool} {M : SeaM} (hb : Below w0.heap.size w0 w) (hs : Se U w' r (SeaS.new i) M) (hU : ∀ j, U j → w.heap.size ≤ j) (hb' : Below w.heap.size w w') : StaS w0 w' r U (SeaS.new i) M :=
  ⟨hs, SeaS.Ok.new i, fun j hj => Nat.le_trans hb.size (hU j hj), hb.trans (hb'.mono hb.size)⟩
theorem BA.mono' {A A' : Nat → Prop} {w : World} {p : Option Addr} {m q : Nat} {b : List UInt8} (h : BA A w p m q b) (hA : ∀ j, j < w.heap.size → A j → A' j) : BA A' w p m q b :=
  ⟨h.1, fun hm => by
    obtain ⟨x, hp, ha, hlt⟩ := h.2 hm
    exact ⟨x, hp, hA _ hlt ha, hlt⟩⟩
/-- Bytes that a call made itself, behind the sealer. -/
theorem Own.no {U : Nat → Prop} {w : World} {base : Nat} {p : Option Addr} {m q : Nat} {l : List UInt8} (h : Own w base (.slice p m q) l) (hU : ∀ j, U j → j < base) : BA (fun j => ¬ U j) w p m q l := h.ba.mono' fun j _ hj hu => by have := hU j hu; omega
theorem BA.no {U : Nat → Prop} {w : World} {base : Nat} {p : Option Addr} {m q : Nat} {l : List UInt8} (h : BA (fun j => base ≤ j) w p m q l) (hU : ∀ j, U j → j < base) : BA (fun j => ¬ U j) w p m q l := h.mono' fun j _ hj hu => by have := hU j hu; omega
/-- Two sealers, apart. -/
structure TwoS (w0 w : World) (r1 : Nat) (U1 : Nat → Prop) (S1 : SeaS) (M1 : SeaM) (r2 : Nat) (U2 : Nat → Prop) (S2 : SeaS) (M2 : SeaM) : Prop where
  a : StaS w0 w r1 U1 S1 M1
  b : StaS w0 w r2 U2 S2 M2
  ap : ∀ j, U1 j → ¬ U2 j
theorem TwoS.grow {w0 w w' : World} {r1 r2 : Nat} {U1 U2 : Nat → Prop} {S1 S2 : SeaS} {M1 M2 : SeaM} (h : TwoS w0 w r1 U1 S1 M1 r2 U2 S2 M2) (k : Below w.heap.size w w') : TwoS w0 w' r1 U1 S1 M1 r2 U2 S2 M2 := ⟨h.a.grow k, h.b.grow k, h.ap⟩
theorem TwoS.left {w0 w w' : World} {r1 r2 : Nat} {U1 U2 : Nat → Prop} {S1 S1' S2 : SeaS} {M1 M2 : SeaM} (h : TwoS w0 w r1 U1 S1 M1 r2 U2 S2 M2) (hs : Se U1 w' r1 S1' M1) (ho : S1'.Ok) (k : Kp U1 w w') : TwoS w0 w' r1 U1 S1' M1 r2 U2 S2 M2 :=
  ⟨h.a.after hs ho k, h.b.kp k (fun j hj hj' => h.ap j hj' hj) h.a.base, h.ap⟩
theorem TwoS.right {w0 w w' : World} {r1 r2 : Nat} {U1 U2 : Nat → Prop} {S1 S2 S2' : SeaS} {M1 M2 : SeaM} (h : TwoS w0 w r1 U1 S1 M1 r2 U2 S2 M2) (hs : Se U2 w' r2 S2' M2) (ho : S2'.Ok) (k : Kp U2 w w') : TwoS w0 w' r1 U1 S1 M1 r2 U2 S2' M2 :=
  ⟨h.a.kp k h.ap h.b.base, h.b.after hs ho k, h.ap⟩
theorem TwoS.first {w0 w1 w2 : World} {r1 r2 : Nat} {U1 U2 : Nat → Prop} {S1 : SeaS} {i : Bool} {M1 M2 : SeaM} (h1 : StaS w0 w1 r1 U1 S1 M1) (hs : Se U2 w2 r2 (SeaS.new i) M2) (hU : ∀ j, U2 j → w1.heap.size ≤ j) (hb : Below w1.heap.size w1 w2) : TwoS w0 w2 r1 U1 S1 M1 r2 U2 (SeaS.new i) M2 :=
  ⟨h1.grow hb, StaS.first h1.bel hs hU hb, fun j h h' => by have := h1.se.lt j h; have := hU j h'; omega⟩

theorem SeaS.known_seal (S : SeaS) (k n b t k' n' b' s' : List UInt8) : (S.seal k n b t).known k' n' b' s' = match S.known k' n' b' s' with | some e => some e | none => if k = k' ∧ n = n' ∧ b = b' ∧ S.made k n b t = s' then some t else none := by
  rw [S.seal_add]
  show (({ S with count := S.next } : SeaS).add k n b t (S.made k n b t)).known k' n' b' s' = _
  rw [SeaS.known_add]
  rfl
/-- What was sealed is opened as it was. -/
theorem SeaS.opens_own {S : SeaS} (h : S.Ok) {k n : List UInt8} (hk : k.length = 32) (hn : n.length = 12) (b t : List UInt8) : (S.seal k n b t).opens k n b (S.made k n b t) = some t := by
  unfold SeaS.opens
  show (if S.ideal = true then _ else _) = _
  by_cases hi : S.ideal = true
  · rw [if_pos hi, S.known_seal, h.made_new k n b t hi]
    simp
  · rw [if_neg hi]
    have : S.made k n b t = sealL (keyF k) n b t := by unfold SeaS.made; rw [if_neg hi]
    rw [this]
    exact opens_seal hk hn
end Go.Proofs.YtlenmkhmkommcaaGreat

/-
  The contract of layer 12's program's Nonce. No condition.
-/
namespace Go.Proofs.YtlenmkhmkommcaaGreat
open Go.RowKit
set_option linter.unusedVariables false

/-- The nonce of two numbers. -/
def nonL (h l : Nat) : List UInt8 := putL h 8 ++ putL l 4
theorem nonL_length (h l : Nat) : (nonL h l).length = 12 := by simp [nonL, putL_length]
set_option maxHeartbeats 1000000 in
theorem oSNonce (w : World) (h l : Nat) (hh : h ≤ 18446744073709551615) (hl : l ≤ 4294967295) :
    Calls Tryz.prog 84 #[.int .u64 (h : Int), .int .u32 (l : Int)] w (Gives w (nonL h l)) := by
  have hl2 : (l : Int) ≤ 4294967295 := by omega
  go_enter Tryz.func84, Tryz.ntmps84
  go_wp2_with fail
  refine (oPut (h : Int) 8 w (by omega) (by omega) (by omega) (by omega)).mono ?_
  rintro e w1 ⟨a1, m1, c1, rfl, o1, hb1⟩
  go_wp2_with fail
  refine (oPut (l : Int) 4 w1 (by omega) (by omega) (by omega) (by omega)).mono ?_
  rintro e w2 ⟨a2, m2, c2, rfl, o2, hb2⟩
  have z1 : m1 ≤ 100 := by have := o1.toBs.len; rw [putL_length] at this; omega
  have z2 : m2 ≤ 100 := by have := o2.toBs.len; rw [putL_length] at this; omega
  go_wp2_with fail
  refine (oJoin2 w2 (o1.toBs.below hb2 (Nat.le_refl _)) o2.toBs (by omega)).mono ?_
  rintro e w3 ⟨a3, m3, c3, rfl, o3, hb3⟩
  go_wp2_with fail
  go_ret
  have q2 := hb1.trans (hb2.mono hb1.size)
  rw [Int.toNat_natCast, Int.toNat_natCast] at o3
  exact ⟨a3, m3, c3, rfl, o3.mono q2.size, q2.trans (hb3.mono q2.size)⟩


end Go.Proofs.YtlenmkhmkommcaaGreat

/-
  The contract of the reference's Join: parts, one behind the other. Condition: the parts have at most 100000 bytes in all.
-/
namespace Go.Proofs.YtlenmkhmkommcaaGreat
open Go.RowKit

end Go.Proofs.YtlenmkhmkommcaaGreat

/-
  The contract of the reference's Put: the lowest bytes of a number, the highest first, in memory of the call's own. Conditions: the number fits 64 bits; the size is at most 1000000.
-/
namespace Go.Proofs.YtlenmkhmkommcaaGreat
open Go.RowKit

theorem put_rec {n s : Int} {w : World} {base : Nat} {v : Value} (h1 : 1 ≤ s) (h0 : 0 ≤ n) (h : Own w base v (putL (n / 256).toNat (s - 1).toNat ++ [UInt8.ofNat (n % 256).toNat])) : Own w base v (putL n.toNat s.toNat) := by
  have e : s.toNat = (s - 1).toNat + 1 := by omega
  rw [e, putL]
  have e2 : (n / 256).toNat = n.toNat / 256 := by omega
  have e3 : UInt8.ofNat n.toNat = UInt8.ofNat (n % 256).toNat := by
    apply UInt8.toNat_inj.1
    rw [UInt8.toNat_ofNat', UInt8.toNat_ofNat']
    omega
  rw [e3, ← e2]
  exact h

set_option maxHeartbeats 400000 in
theorem rPut (k : Nat) : ∀ (n s : Int) (w : World), s ≤ k → k ≤ 1000000 → 0 ≤ n → n ≤ 18446744073709551615 → -9223372036854775808 ≤ s →
    Calls Tryz.prog 76 #[.int .u64 n, .int .i64 s] w (Gives w (putL n.toNat s.toNat)) := by
  induction k with
  | zero =>
    intro n s w hs _ hn0 hn hlo
    have e : s.toNat = 0 := by omega
    rw [e]
    have h1 : s < 1 := by omega
    clear e
    go_enter Tryz.func76, Tryz.ntmps76
    go_wp2_with fail
    go_ret
    exact Gives.mk (Own.nil _ _) (Below.refl _ _)
  | succ k ih =>
    intro n s w hs hk hn0 hn hlo
    by_cases h1 : s < 1
    · have e : s.toNat = 0 := by omega
      rw [e]
      clear e ih
      go_enter Tryz.func76, Tryz.ntmps76
      go_wp2_with fail
      go_ret
      exact Gives.mk (Own.nil _ _) (Below.refl _ _)
    · have IH := ih (n / 256) (s - 1) w (by omega) (by omega) (by omega) (by omega) (by omega)
      clear ih
      go_enter Tryz.func76, Tryz.ntmps76
      go_wp2_with fail
      refine IH.mono ?_
      rintro e w1 ⟨a1, m1, c1, rfl, hown, hbel⟩
      have hz : (putL (n / 256).toNat (s - 1).toNat).length + [UInt8.ofNat (n % 256).toNat].length ≤ 1000000000 := by rw [putL_length]; simp; omega
      have hsz : w.heap.size ≤ w1.heap.size := hbel.size
      clear IH
      go_wp2_with (at_builtin; refine wpList_app _ rfl _ _ rfl w.heap.size _ _ rfl (hown.below (below_alloc _ _) (Nat.le_refl _)) _ 1 1 [UInt8.ofNat (n % 256).toNat] rfl (Bs.one _ _ (by omega) (by omega)) hz (by simp; omega) ?_; intro v2 w2 hown2 hbel2)
      go_ret
      exact Gives.mk (put_rec h1 hn0 hown2) ((hbel.alloc hsz _).trans hbel2)

end Go.Proofs.YtlenmkhmkommcaaGreat

/-
  Slices of slices of bytes, and the contracts of total, Join and Pack, the reference's Join and Pack, Short and SameAll. Conditions: the parts have at most 100000 bytes in all, and are at most 100000 (of Short and SameAll: none but that lengths fit).
-/
namespace Go.Proofs.YtlenmkhmkommcaaGreat
open Go.RowKit

/-- Each part with its length ahead. -/
def packL : List (List UInt8) → List UInt8
  | [] => []
  | x :: r => putL x.length 4 ++ x ++ packL r

theorem packL_snoc (l : List (List UInt8)) (x : List UInt8) : packL (l ++ [x]) = packL l ++ putL x.length 4 ++ x := by
  induction l with
  | nil => simp [packL]
  | cons y r ih => simp [packL, ih]

theorem packL_length (l : List (List UInt8)) : (packL l).length = tot l + 4 * l.length := by
  induction l with
  | nil => rfl
  | cons y r ih => simp [packL, tot, ih, putL_length]; omega

theorem pack_room {l : List (List UInt8)} {k m : Nat} (h : k < l.length) (hm : (l.getD k []).length = m) (hz : tot l ≤ 100000) (hn : l.length ≤ 100000) :
    m ≤ 100000 ∧ (packL (l.take k)).length + (putL m 4).length ≤ 1000000000 ∧ (packL (l.take k) ++ putL m 4).length + (l.getD k []).length ≤ 1000000000 := by
  have h1 := tot_take_le l (k + 1)
  rw [takes_snoc h, tot_snoc] at h1
  have h2 : (l.take k).length ≤ l.length := List.length_take_le' _ _
  rw [List.length_append, packL_length, putL_length]
  omega
theorem pack_step {l : List (List UInt8)} {k m : Nat} (h : k < l.length) (hm : (l.getD k []).length = m) : packL (l.take k) ++ putL m 4 ++ l.getD k [] = packL (l.take (k + 1)) := by
  rw [takes_snoc h, packL_snoc, hm]
theorem pack_end {w : World} {base n k : Nat} {v : Value} {l : List (List UInt8)} (H : Hid (l.length = n)) (h : ¬ k < n) (ho : Own w base v (packL (l.take k))) : Own w base v (packL l) := by
  rw [List.take_of_length_le (by rw [H.out]; omega)] at ho
  exact ho

set_option maxHeartbeats 400000 in
theorem oPack (w : World) {a : Option Addr} {n c : Nat} {ls : List (List UInt8)} (ha : Bss w a n c ls) (hz : tot ls ≤ 100000) (hn : n ≤ 100000) :
    Calls Tryz.prog 85 #[.slice a n c] w (Gives w (packL ls)) := by
  have hT := oTotal w ha hz
  by_cases h0 : n = 0
  · subst h0
    have e : ls = [] := List.length_eq_zero_iff.1 ha.len
    subst e
    clear ha
    go_enter Tryz.func85, Tryz.ntmps85
    go_wp2_with (first | (go_at_call 99; refine hT.mono ?_; rintro e w' ⟨rfl, rfl⟩) | (at_make; refine wpList_mk0 _ rfl _ _ rfl _ _ rfl rfl (by omega) (by omega) (Nat.le_refl _) ?_; intro v1 w1 hown hbel))
    refine wp_loop_rounds 1 ?_; rw [rounds_succ]; go_wp2
    go_ret
    exact Gives.mk hown hbel
  · obtain ⟨x, o, rfl, hx, hc⟩ := ha.at (by omega)
    have H : Hid (ls.length = n) := ha.len
    clear ha
    go_enter Tryz.func85, Tryz.ntmps85
    go_wp2_with (first | (go_at_call 99; refine hT.mono ?_; rintro e w' ⟨rfl, rfl⟩) | (at_make; refine wpList_mk0 _ rfl _ _ rfl _ _ rfl rfl (by omega) (by omega) (Nat.le_refl _) ?_; intro v1 w1 hown hbel))
    clear hT
    go_loopw [3, 15] (fun v i wr => ∃ k : Nat, k ≤ n ∧ i = .int .i64 k ∧ Own wr w.heap.size v (packL (ls.take k)) ∧ Below w.heap.size w wr) (fun _ i _ => n - (intOf i).toNat)
    case atStart => exact ⟨0, Nat.zero_le _, rfl, hown, hbel⟩
    case round =>
      obtain ⟨k, hk, rfl, ho, hb⟩ := hrel
      clear hown hbel
      by_cases hlt : k < n
      · obtain ⟨p, m, q, c1, hp⟩ := Bss.part hc hb k hlt
        obtain ⟨r0, r1, r2⟩ := pack_room (by rw [H.out]; exact hlt) hp.len hz (by rw [H.out]; exact hn)
        have hs := hb.size
        have HS : Hid (packL (ls.take k) ++ putL m 4 ++ ls.getD k [] = packL (ls.take (k + 1))) := pack_step (by rw [H.out]; exact hlt) hp.len
        have hP := oPut (m : Int) 4 wr (by omega) (by omega) (by omega) (by omega)
        rw [Int.toNat_natCast, show (4 : Int).toNat = 4 from rfl] at hP
        have HP : Hid (Calls Tryz.prog 86 #[.int .u64 (m : Int), .int .i64 4] wr (Gives wr (putL m 4))) := hP
        clear hP
        go_wp2_with (first | (go_at_call 86; refine HP.out.mono ?_; rintro e w1 ⟨a1, m1, c1', rfl, ho1, hb1⟩) | (at_builtin; refine wpList_app _ rfl (.tmp 19) (.tmp 23) rfl w.heap.size _ _ rfl (ho.below hb1 (Nat.le_refl _)) _ _ _ _ rfl ho1.toBs r1 (Nat.le_trans hs hb1.size) ?_; intro v2 w2 ho2 hb2) | (at_builtin; refine wpList_app _ rfl (.tmp 25) (.tmp 26) rfl w.heap.size _ _ rfl ho2 _ _ _ _ rfl (hp.below (hb.trans ((hb1.mono hs).trans hb2)) (Nat.le_refl _)) r2 (Nat.le_trans (Nat.le_trans hs hb1.size) hb2.size) ?_; intro v3 w3 ho3 hb3))
        go_roundw
        case rel => exact ⟨k + 1, by omega, by go_num, by rw [← HS.out]; exact ho3, hb.trans (((hb1.mono hs).trans hb2).trans hb3)⟩
        case measure => simp [intOf]; omega
      · go_wp2
        go_ret
        exact Gives.mk (pack_end H hlt ho) hb

end Go.Proofs.YtlenmkhmkommcaaGreat

/-
  Plain mathematics: two lists of parts, each with its length ahead, that are the same bytes are the same. Condition: fewer than 1000000 bytes in all.
-/
namespace Go.Proofs.YtlenmkhmkommcaaGreat
open Go.RowKit

end Go.Proofs.YtlenmkhmkommcaaGreat
