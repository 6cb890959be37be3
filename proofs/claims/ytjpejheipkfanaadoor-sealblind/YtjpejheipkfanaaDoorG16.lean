/-
  8 texts in one. No statement of the seat is proved here.
-/
import Derived.Test.YtjpejheipkfanaaDoorG15
import Derived.Deep.RegionHeld3
import Derived.Deep.DrawnRows
/-
  The contract of layer 12's program's Open. Conditions: what stands beside and what is opened of at most 300 bytes.
-/
namespace Go.Proofs.YtjpejheipkfanaaDoor
open Go.RowKit
set_option linter.unusedVariables false

/-- What Open answers: the text, or that it is not right. -/
def OpensS (U : Nat → Prop) (r : Nat) (S' : SeaS) (M : SeaM) (l : Option (List UInt8)) (w : World) (e : Ending) (w' : World) : Prop := ∃ a m c, e = .returned (.tuple #[.slice a m c, .int .i64 (if l.isSome then 0 else 6)]) ∧ BA (fun j => w.heap.size ≤ j) w' a m c (l.getD []) ∧ Se U w' r S' M ∧ Kp U w w'
theorem SeaS.opened_ideal {S : SeaS} (hi : S.ideal = true) (k n b s : List UInt8) : S.opened k n b s = S := by
  obtain ⟨i, bk, kd, c, x, f⟩ := S
  dsimp only at hi
  subst hi
  simp [SeaS.opened]
theorem SeaS.opened_real {S : SeaS} (hi : S.ideal = false) (k n b s : List UInt8) : S.opened k n b s = { S with forged := S.forged || ((opensL k n b s).isSome && !(S.known k n b s).isSome) } := by
  unfold SeaS.opened
  rw [hi]
  cases S.known k n b s <;> simp
theorem BA.nil (A : Nat → Prop) (w : World) : BA A w none 0 0 [] := ⟨Bs.nil w, fun h => by omega⟩
theorem BA.kp {A F : Nat → Prop} {w w' : World} {p : Option Addr} {m q : Nat} {b : List UInt8} (h : BA A w p m q b) (k : Kp F w w') (hF : ∀ j, A j → ¬ F j) : BA A w' p m q b := h.keep k.size fun j hj ha => k.block j hj (hF j ha)
theorem BA.below' {A : Nat → Prop} {w w' : World} {p : Option Addr} {m q : Nat} {b : List UInt8} (h : BA A w p m q b) (hb : Below w.heap.size w w') : BA A w' p m q b := h.keep hb.size fun j hj _ => hb.block j hj

set_option maxRecDepth 100000 in
set_option maxHeartbeats 4000000 in
theorem oSOpen (w : World) {U : Nat → Prop} {r : Nat} {S : SeaS} {M : SeaM} (h : Se U w r S M) {k n b s : List UInt8} {ak an ab as' : Option Addr} {ck cn nb cb ns cs' : Nat} (hk : Bs w ak 32 ck k) (hn : Bs w an 12 cn n) (hb : Bs w ab nb cb b) (hs : Bs w as' ns cs' s) (zb : nb ≤ 300) (zs : ns ≤ 300) :
    Calls Tryd.prog 12 #[.pointer (some ⟨r, 0, none⟩), .slice ak 32 ck, .slice an 12 cn, .slice ab nb cb, .slice as' ns cs'] w (OpensS U r (S.opened k n b s) M (S.opens k n b s) w) := by
  have HS : Hid (Se U w r S M) := h
  have CF : Hid (Calls Tryd.prog 26 #[.slice ak 32 ck, .slice an 12 cn] w fun e w' => e = .returned (.bool true) ∧ w = w') := oFit w ak an 32 ck 12 cn (by omega) (by omega)
  have HK : Hid (Bs w ak 32 ck k) := hk
  have HN : Hid (Bs w an 12 cn n) := hn
  have HB : Hid (Bs w ab nb cb b) := hb
  have HC : Hid (Bs w as' ns cs' s) := hs
  have l1 := hk.len
  have l2 := hn.len
  have l3 := hb.len
  have l4 := hs.len
  obtain ⟨b1, t1, ft1, hid, hfind⟩ := oFindB w h (k := k) (n := n) (b := b) (s := s) (by unfold fitW; omega) (by unfold fitW; omega) (by unfold fitW; omega) (by unfold fitW; omega)
  obtain ⟨kn, hkn⟩ : ∃ kn, kn = (S.known k n b s).isSome := ⟨_, rfl⟩
  rw [← hkn] at hfind
  have CFI : Hid (∀ u, Grows w u → Calls Tryd.prog 29 #[.pointer (some ⟨r, 2, none⟩), kvO (k, n, b, s)] u fun e w' => e = .returned (.tuple #[.agg #[sv b1, sv t1], .bool kn]) ∧ Below u.heap.size u w') := hfind
  have HKN : Hid (kn = (S.known k n b s).isSome ∧ (S.ideal = true → ∀ t, S.known k n b s = some t → t1 = t)) := ⟨hkn, hid⟩
  have lr := h.blk.lt
  have ft2 : t1.length ≤ 1000000 := ft1
  clear h hk hn hb hs hfind hid hkn ft1 l1 l2 l3 l4
  go_enter Tryd.func12, Tryd.ntmps12
  go_wp2_with fail
  refine CF.out.mono ?_
  rintro e w1 ⟨rfl, rfl⟩
  clear CF
  go_wp2_with fail
  refine regionG (S := Grows w) (by kernel_rfl) (Below.refl _ w).drew ?_
  refine takeG 0 (some 21) (.pointer (some ⟨r, 0, none⟩)) rfl rfl (by kernel_rfl) (by kernel_rfl) (by kernel_rfl) (fun _ _ _ h => h) (ans_plain (by rfl) (fun w _ => rfl)) ?_
  simp only [Act.put, List.setIfInBounds_toArray, List.set_cons_zero, List.set_cons_succ]
  refine takeG 1 (some 22) (.pointer (some ⟨r, 0, none⟩)) rfl rfl (by kernel_rfl) (by kernel_rfl) (by kernel_rfl) (fun _ _ _ h => h) (ans_plain (by rfl) (fun w _ => by unfold execOp; go_simp)) ?_
  simp only [Act.put, List.setIfInBounds_toArray, List.set_cons_zero, List.set_cons_succ]
  refine takeG 2 (some 23) (.pointer (some ⟨r, 2, none⟩)) rfl rfl (by kernel_rfl) (by kernel_rfl) (by kernel_rfl) (fun _ _ _ h => h) (ans_plain (by rfl) (fun w _ => by unfold execOp; go_simp)) ?_
  simp only [Act.put, List.setIfInBounds_toArray, List.set_cons_zero, List.set_cons_succ]
  refine takeG 3 (some 24) (.slice ak 32 ck) rfl rfl (by kernel_rfl) (by kernel_rfl) (by kernel_rfl) (fun _ _ _ h => h) (ans_plain (by rfl) (fun w _ => rfl)) ?_
  simp only [Act.put, List.setIfInBounds_toArray, List.set_cons_zero, List.set_cons_succ]
  refine takeG 4 (some 25) (sv k) rfl rfl (by kernel_rfl) (by kernel_rfl) (by kernel_rfl) (fun _ _ _ h => h) (ans_str (.tmp 24) rfl (by rfl) ak 32 ck k rfl (fun u hu => HK.out.below hu (Nat.le_refl _))) ?_
  simp only [Act.put, List.setIfInBounds_toArray, List.set_cons_zero, List.set_cons_succ]
  refine takeG 5 (some 26) (.slice an 12 cn) rfl rfl (by kernel_rfl) (by kernel_rfl) (by kernel_rfl) (fun _ _ _ h => h) (ans_plain (by rfl) (fun w _ => rfl)) ?_
  simp only [Act.put, List.setIfInBounds_toArray, List.set_cons_zero, List.set_cons_succ]
  refine takeG 6 (some 27) (sv n) rfl rfl (by kernel_rfl) (by kernel_rfl) (by kernel_rfl) (fun _ _ _ h => h) (ans_str (.tmp 26) rfl (by rfl) an 12 cn n rfl (fun u hu => HN.out.below hu (Nat.le_refl _))) ?_
  simp only [Act.put, List.setIfInBounds_toArray, List.set_cons_zero, List.set_cons_succ]
  refine takeG 7 (some 28) (.agg #[sv k, sv n]) rfl rfl (by kernel_rfl) (by kernel_rfl) (by kernel_rfl) (fun _ _ _ h => h) (ans_bdK 61 [(0, .tmp 25), (1, .tmp 27)] [(0, sv k), (1, sv n)] _ rfl (by rfl) rfl (builtPl _ _)) ?_
  simp only [Act.put, List.setIfInBounds_toArray, List.set_cons_zero, List.set_cons_succ]
  refine takeG 8 (some 29) (.slice ab nb cb) rfl rfl (by kernel_rfl) (by kernel_rfl) (by kernel_rfl) (fun _ _ _ h => h) (ans_plain (by rfl) (fun w _ => rfl)) ?_
  simp only [Act.put, List.setIfInBounds_toArray, List.set_cons_zero, List.set_cons_succ]
  refine takeG 9 (some 30) (sv b) rfl rfl (by kernel_rfl) (by kernel_rfl) (by kernel_rfl) (fun _ _ _ h => h) (ans_str (.tmp 29) rfl (by rfl) ab nb cb b rfl (fun u hu => HB.out.below hu (Nat.le_refl _))) ?_
  simp only [Act.put, List.setIfInBounds_toArray, List.set_cons_zero, List.set_cons_succ]
  refine takeG 10 (some 31) (.slice as' ns cs') rfl rfl (by kernel_rfl) (by kernel_rfl) (by kernel_rfl) (fun _ _ _ h => h) (ans_plain (by rfl) (fun w _ => rfl)) ?_
  simp only [Act.put, List.setIfInBounds_toArray, List.set_cons_zero, List.set_cons_succ]
  refine takeG 11 (some 32) (sv s) rfl rfl (by kernel_rfl) (by kernel_rfl) (by kernel_rfl) (fun _ _ _ h => h) (ans_str (.tmp 31) rfl (by rfl) as' ns cs' s rfl (fun u hu => HC.out.below hu (Nat.le_refl _))) ?_
  simp only [Act.put, List.setIfInBounds_toArray, List.set_cons_zero, List.set_cons_succ]
  refine takeG 12 (some 33) (.agg #[sv k, sv n, sv b, sv s]) rfl rfl (by kernel_rfl) (by kernel_rfl) (by kernel_rfl) (fun _ _ _ h => h) (ans_bdK 67 [(0, .tmp 28), (1, .tmp 30), (2, .tmp 32)] [(0, .agg #[sv k, sv n]), (1, sv b), (2, sv s)] _ rfl (by rfl) rfl (builtOp _ _ _ _)) ?_
  simp only [Act.put, List.setIfInBounds_toArray, List.set_cons_zero, List.set_cons_succ]
  refine takeG 13 (some 34) (.tuple #[.agg #[sv b1, sv t1], .bool kn]) rfl rfl (by kernel_rfl) (by kernel_rfl) (by kernel_rfl) (fun _ _ _ h => h) (ans_fn 29 #[.tmp 23, .tmp 33] #[50, 67] #[.pointer (some ⟨r, 2, none⟩), kvO (k, n, b, s)] rfl (by rfl) (by rfl) Tryd.call29 fun u h => CFI.out u h) ?_
  simp only [Act.put, List.setIfInBounds_toArray, List.set_cons_zero, List.set_cons_succ]
  refine takeG 14 (some 20) (.tuple #[.agg #[sv b1, sv t1], .bool kn]) rfl rfl (by kernel_rfl) (by kernel_rfl) (by kernel_rfl) (fun _ _ _ h => h) (ans_plain (by rfl) (fun w _ => rfl)) ?_
  simp only [Act.put, List.setIfInBounds_toArray, List.set_cons_zero, List.set_cons_succ]
  refine takeG 15 (some 35) (.agg #[sv b1, sv t1]) rfl rfl (by kernel_rfl) (by kernel_rfl) (by kernel_rfl) (fun _ _ _ h => h) (ans_plain (by rfl) (fun w _ => by unfold execOp; go_simp)) ?_
  simp only [Act.put, List.setIfInBounds_toArray, List.set_cons_zero, List.set_cons_succ]
  refine takeG 16 (some 36) (.bool kn) rfl rfl (by kernel_rfl) (by kernel_rfl) (by kernel_rfl) (fun _ _ _ h => h) (ans_plain (by rfl) (fun w _ => by unfold execOp; go_simp)) ?_
  simp only [Act.put, List.setIfInBounds_toArray, List.set_cons_zero, List.set_cons_succ]
  refine alloc1 (fun _ _ h h' => Grows.trans h h') 17 12 (makesCt rfl) (by kernel_rfl) fun x9 w4 hg4 hs4 B9 hx9 => ?_
  simp only [Act.put, List.setIfInBounds_toArray, List.set_cons_zero, List.set_cons_succ]
  refine oneG 18 (by kernel_rfl) fun w5 hg5 hs5 => ?_
  refine opStR 18 63 (.tmp 12) (.tmp 35) 2 rfl rfl rfl rfl x9 _ [sv b1, sv t1] 63 (B9.grows hg5) rfl rfl (two_one _ _) sizeCt rfl rfl fun w6 B9' k6 => ?_
  have hx93 : w.heap.size ≤ x9 := hx9
  have hs6 : Grows w w6 := Below.trans hs5 (k6.below (B := w.heap.size) (Below.size hs5) (fun j hj e => by omega))
  refine ⟨hs6, ?_⟩
  refine takeG 19 (some 13) (.bool kn) rfl rfl (by kernel_rfl) (by kernel_rfl) (by kernel_rfl) (fun _ _ _ h => h) (ans_plain (by rfl) (fun w _ => rfl)) ?_
  simp only [Act.put, List.setIfInBounds_toArray, List.set_cons_zero, List.set_cons_succ]
  refine doneG (by kernel_rfl) fun w7 hg7 hs7 => ?_
  have B97 : Blk w7 x9 [sv b1, sv t1] 63 := B9'.grows hg7
  have c91 : w7.cell? ⟨x9, 1, none⟩ = some (sv t1) := B97.cell 1
  have l9 := B97.lt
  have KB7 : Hid (Below w.heap.size w w7) := hs7
  obtain ⟨cc, w8, hrun, hB8, hsz8, hb8⟩ := str_bytes w7 t1 ft2
  have R8 : Hid (Bs w8 (some ⟨w7.heap.size, 0, none⟩) t1.length cc t1 ∧ w7.heap.size < w8.heap.size) := ⟨hB8, hsz8⟩
  have KB8 : Hid (Below w.heap.size w w8) := KB7.out.trans (hb8.mono KB7.out.size)
  have S8 : Hid (Se U w8 r S M) := HS.out.grow KB8.out
  have hi0 : w8.cell? ⟨r, 0, none⟩ = some (.bool S.ideal) := S8.out.blk.cell 0
  have lr8 := S8.out.blk.lt
  have fg0 : w8.cell? ⟨r, 6, none⟩ = some (.bool S.forged) := S8.out.blk.cell 6
  have ff0 := S8.out.blk.free 6
  clear B9' B9 hg4 hs4 hg5 hs5 k6 hs6 hg7 hs7 hx9 hx93 B97 hB8 hsz8 hb8 CFI
  rcases Bool.eq_false_or_eq_true S.ideal with hi | hi
  · rw [hi] at hi0
    have HO : Hid (S.opens k n b s = S.known k n b s ∧ S.opened k n b s = S) := ⟨by unfold SeaS.opens; rw [if_pos hi], SeaS.opened_ideal hi k n b s⟩
    cases kn with
    | true =>
      have HV : Hid (S.known k n b s = some t1) := by
        show _ = _
        obtain ⟨t0, ht0⟩ := Option.isSome_iff_exists.1 HKN.out.1.symm
        rw [ht0, HKN.out.2 hi t0 ht0]
      clear hi
      go_wp2_with fail
      go_ret2
      refine ⟨_, _, _, by rw [HO.out.1, HV.out]; rfl, ?_, by rw [HO.out.2]; exact S8.out, Kp.of_below KB8.out⟩
      rw [HO.out.1, HV.out]
      exact ⟨R8.out.1, fun _ => ⟨_, rfl, KB7.out.size, R8.out.2⟩⟩
    | false =>
      have HV : Hid (S.known k n b s = none) := by
        show _ = _
        exact Option.not_isSome_iff_eq_none.1 (by rw [← HKN.out.1]; decide)
      clear hi
      go_wp2_with fail
      go_ret2
      refine ⟨_, _, _, by rw [HO.out.1, HV.out]; rfl, ?_, by rw [HO.out.2]; exact S8.out, Kp.of_below KB8.out⟩
      rw [HO.out.1, HV.out]
      exact BA.nil _ _
  · rw [hi] at hi0
    have CO : Hid (Calls Tryd.prog 30 #[.pointer (some ⟨r, 0, none⟩), .slice ak 32 ck, .slice an 12 cn, .slice ab nb cb, .slice as' ns cs'] w8 (Openeds (opensL k n b s) w8)) := oOpened w8 S8.out hi (HK.out.below KB8.out (Nat.le_refl _)) (HN.out.below KB8.out (Nat.le_refl _)) (HB.out.below KB8.out (Nat.le_refl _)) (HC.out.below KB8.out (Nat.le_refl _)) zb zs
    have HO : Hid (S.opens k n b s = opensL k n b s) := by show _ = _; unfold SeaS.opens; rw [if_neg (by rw [hi]; decide)]
    have HP : Hid (S.opened k n b s = { S with forged := S.forged || ((opensL k n b s).isSome && !kn) }) := by
      show _ = _
      rw [SeaS.opened_real hi, HKN.out.1]
    obtain ⟨O, hO⟩ : ∃ O, O = opensL k n b s := ⟨_, rfl⟩
    rw [← hO] at CO HO HP
    clear hO hi
    go_wp2_with fail
    refine CO.out.mono ?_
    rintro e w9 ⟨a9, m9, c9, rfl, o9, hb9⟩
    have KB9 : Hid (Below w.heap.size w w9) := KB8.out.trans (hb9.mono KB8.out.size)
    have S9 : Hid (Se U w9 r S M) := S8.out.grow hb9
    have O9 : Hid (Own w9 w.heap.size (.slice a9 m9 c9) (O.getD [])) := o9.mono KB8.out.size
    have fg : w9.cell? ⟨r, 6, none⟩ = some (.bool S.forged) := S9.out.blk.cell 6
    have ff := S9.out.blk.free 6
    have lr9 := S9.out.blk.lt
    clear CO o9 hb9 hi0 lr8 fg0 ff0
    cases O with
    | none =>
      have HE : Hid (S.opened k n b s = S) := by show _ = _; rw [HP.out]; simp
      clear fg ff
      go_wp2_with fail
      go_ret2
      refine ⟨_, _, _, by rw [HO.out]; rfl, ?_, by rw [HE.out]; exact S9.out, Kp.of_below KB9.out⟩
      rw [HO.out]
      exact BA.nil _ _
    | some l =>
      cases kn with
      | true =>
        have HE : Hid (S.opened k n b s = S) := by show _ = _; rw [HP.out]; simp
        clear fg ff
        go_wp2_with fail
        go_ret2
        refine ⟨_, _, _, by rw [HO.out]; rfl, ?_, by rw [HE.out]; exact S9.out, Kp.of_below KB9.out⟩
        rw [HO.out]
        exact O9.out.ba
      | false =>
        have HE : Hid (S.opened k n b s = { S with forged := true }) := by show _ = _; rw [HP.out]; simp
        have hk6 : Kp (fun j => j = r) w9 (w9.setCell ⟨r, 6, none⟩ (.bool true)) := Kp.of_grown (but_set w9 r 6 _)
        have S10 : Hid (Se U (w9.setCell ⟨r, 6, none⟩ (.bool true)) r { S with forged := true } M) := by
          refine S9.out.put hk6 ?_ rfl rfl rfl S9.out.bound
          exact S9.out.blk.setC 6 (.bool true)
        have O10 : Hid (Own (w9.setCell ⟨r, 6, none⟩ (.bool true)) w.heap.size (.slice a9 m9 c9) l) := O9.out.kp hk6 fun j hj => by rw [hj]; exact HS.out.lt r HS.out.inR
        have K10 : Hid (Kp U w (w9.setCell ⟨r, 6, none⟩ (.bool true))) := (Kp.of_below KB9.out).trans (hk6.mono fun j _ e => by rw [e]; exact HS.out.inR)
        clear hk6
        go_wp2_with fail
        go_ret2
        refine ⟨_, _, _, by rw [HO.out]; rfl, ?_, by rw [HE.out]; exact S10.out, K10.out⟩
        rw [HO.out]
        exact O10.out.ba

end Go.Proofs.YtjpejheipkfanaaDoor

/-
  The contracts of what turns words of 32 bits, in the program and in the reference. Condition: turned by 1 to 31.
-/
namespace Go.Proofs.YtjpejheipkfanaaDoor
open Go.RowKit

theorem w_lt (x : UInt32) : x.toNat < 4294967296 := UInt32.toNat_lt x
theorem w_add (x y : UInt32) : IntKind.u32.wrap ((x.toNat : Int) + (y.toNat : Int)) = ((x + y).toNat : Int) := by
  rw [IntKind.wrap_u32', UInt32.toNat_add]; omega
theorem w_and (x y : UInt32) : bits .and .u32 (x.toNat : Int) (y.toNat : Int) = ((x &&& y).toNat : Int) := by
  rw [u32_and_nat _ _ (w_lt x) (w_lt y), UInt32.toNat_and]
theorem w_or (x y : UInt32) : bits .or .u32 (x.toNat : Int) (y.toNat : Int) = ((x ||| y).toNat : Int) := by
  rw [u32_or_nat _ _ (w_lt x) (w_lt y), UInt32.toNat_or]
theorem w_xor (x y : UInt32) : bits .xor .u32 (x.toNat : Int) (y.toNat : Int) = ((x ^^^ y).toNat : Int) := by
  rw [u32_xor_nat _ _ (w_lt x) (w_lt y), UInt32.toNat_xor]
theorem sh_amount (n : Nat) (h : n < 32) : (UInt32.ofNat n).toNat % 32 = n := by rw [UInt32.toNat_ofNat']; omega
theorem w_shr (x : UInt32) (n : Nat) (h : n < 32) : ((x.toNat : Int) / 2 ^ n) = ((x >>> UInt32.ofNat n).toNat : Int) := by
  rw [UInt32.toNat_shiftRight, Nat.shiftRight_eq_div_pow, sh_amount n h, Int.natCast_ediv, Int.natCast_pow]
  rfl
theorem w_shl (x : UInt32) (n : Nat) (h : n < 32) : ((x.toNat : Int) * 2 ^ n) % 4294967296 = ((x <<< UInt32.ofNat n).toNat : Int) := by
  rw [UInt32.toNat_shiftLeft, Nat.shiftLeft_eq, sh_amount n h, Int.natCast_emod, Int.natCast_mul, Int.natCast_pow]
  rfl
theorem sub32 (n : Nat) (h : n ≤ 31) : UInt32.ofNat (32 - n) = 32 - UInt32.ofNat n := by
  apply UInt32.toNat_inj.1
  rw [UInt32.toNat_sub, UInt32.toNat_ofNat', UInt32.toNat_ofNat']
  have : (32 : UInt32).toNat = 32 := rfl
  rw [this]
  omega

theorem rot_right (x : UInt32) (n : Nat) (h1 : n ≤ 31) (h2 : 1 ≤ n) : bits .or .u32 ((x.toNat : Int) / 2 ^ n) ((x.toNat : Int) * 2 ^ (32 - n) % 4294967296) = ((rot x (UInt32.ofNat n)).toNat : Int) := by
  rw [w_shr x n (by omega), w_shl x (32 - n) (by omega), w_or, rot, sub32 n h1]
theorem rot_left (x : UInt32) (n : Nat) (h1 : n ≤ 31) (h2 : 1 ≤ n) : bits .or .u32 ((x.toNat : Int) * 2 ^ (32 - n) % 4294967296) ((x.toNat : Int) / 2 ^ (32 - (32 - n))) = ((rot x (UInt32.ofNat n)).toNat : Int) := by
  rw [show 32 - (32 - n) = n from by omega, w_shr x n (by omega), w_shl x (32 - n) (by omega), w_or, rot, sub32 n h1, UInt32.or_comm]

theorem neg_and (n : Nat) (h1 : n ≤ 31) (h2 : 1 ≤ n) : bits .and .u64 (IntKind.u64.wrap (-(n : Int))) 31 = 32 - (n : Int) := by
  have : ∀ n : Fin 32, 1 ≤ n.val → bits .and .u64 (IntKind.u64.wrap (-(n.val : Int))) 31 = 32 - (n.val : Int) := by decide +kernel
  exact this ⟨n, by omega⟩ h2

theorem oRotl (w : World) (x : UInt32) (n : Nat) (h1 : n ≤ 31) (h2 : 1 ≤ n) :
    Calls Tryd.prog 87 #[.int .u32 (x.toNat : Int), .int .i64 (-(n : Int))] w fun e w' => e = .returned (.int .u32 ((rot x (UInt32.ofNat n)).toNat : Int)) ∧ w = w' := by
  have h3 : 1 ≤ (n : Int) := by omega
  have h4 : (n : Int) ≤ 31 := by omega
  have h5 : (0 : Int) ≤ 32 - n := by omega
  have h6 := neg_and n h1 h2
  have H := rot_left x n h1 h2
  have HH : Hid _ := H
  clear H
  go_enter Tryd.func87, Tryd.ntmps87
  go_wp2
  go_ret
  exact ⟨ret_int HH.out, rfl⟩

theorem oRight (w : World) (x : UInt32) (n : Nat) (h1 : n ≤ 31) (h2 : 1 ≤ n) :
    Calls Tryd.prog 86 #[.int .u32 (x.toNat : Int), .int .i64 (n : Int)] w fun e w' => e = .returned (.int .u32 ((rot x (UInt32.ofNat n)).toNat : Int)) ∧ w = w' := by
  go_enter Tryd.func86, Tryd.ntmps86
  go_wp2_with fail
  refine (oRotl w x n h1 h2).mono ?_
  rintro e w' ⟨rfl, rfl⟩
  go_wp2
  go_ret
  exact ⟨rfl, rfl⟩

theorem w_shr3 (x : UInt32) : (x.toNat : Int) / (8 : Int) = ((x >>> 3).toNat : Int) := w_shr x 3 (by omega)
theorem w_shr10 (x : UInt32) : (x.toNat : Int) / (1024 : Int) = ((x >>> 10).toNat : Int) := w_shr x 10 (by omega)

theorem oEarly (w : World) (x : UInt32) :
    Calls Tryd.prog 83 #[.int .u32 (x.toNat : Int)] w fun e w' => e = .returned (.int .u32 ((sgA x).toNat : Int)) ∧ w = w' := by
  have c1 := oRight w x 7 (by omega) (by omega)
  have c2 := oRight w x 18 (by omega) (by omega)
  go_enter Tryd.func83, Tryd.ntmps83
  go_wp2_with fail
  refine c1.mono ?_
  rintro e w' ⟨rfl, rfl⟩
  go_wp2_with fail
  refine c2.mono ?_
  rintro e w' ⟨rfl, rfl⟩
  go_wp2
  go_ret
  exact ⟨ret_int (by rw [w_xor, w_shr3, w_xor]; rfl), rfl⟩

theorem oLate (w : World) (x : UInt32) :
    Calls Tryd.prog 84 #[.int .u32 (x.toNat : Int)] w fun e w' => e = .returned (.int .u32 ((sgB x).toNat : Int)) ∧ w = w' := by
  have c1 := oRight w x 17 (by omega) (by omega)
  have c2 := oRight w x 19 (by omega) (by omega)
  go_enter Tryd.func84, Tryd.ntmps84
  go_wp2_with fail
  refine c1.mono ?_
  rintro e w' ⟨rfl, rfl⟩
  go_wp2_with fail
  refine c2.mono ?_
  rintro e w' ⟨rfl, rfl⟩
  go_wp2
  go_ret
  exact ⟨ret_int (by rw [w_xor, w_shr10, w_xor]; rfl), rfl⟩

theorem oTurns (w : World) (x : UInt32) (i j k : Nat) (hi : i ≤ 31) (hi1 : 1 ≤ i) (hj : j ≤ 31) (hj1 : 1 ≤ j) (hk : k ≤ 31) (hk1 : 1 ≤ k) :
    Calls Tryd.prog 85 #[.int .u32 (x.toNat : Int), .int .i64 (i : Int), .int .i64 (j : Int), .int .i64 (k : Int)] w fun e w' => e = .returned (.int .u32 ((rot x (UInt32.ofNat i) ^^^ rot x (UInt32.ofNat j) ^^^ rot x (UInt32.ofNat k)).toNat : Int)) ∧ w = w' := by
  have c1 := oRight w x i hi hi1
  have c2 := oRight w x j hj hj1
  have c3 := oRight w x k hk hk1
  go_enter Tryd.func85, Tryd.ntmps85
  go_wp2_with fail
  refine c1.mono ?_
  rintro e w' ⟨rfl, rfl⟩
  go_wp2_with fail
  refine c2.mono ?_
  rintro e w' ⟨rfl, rfl⟩
  go_wp2_with fail
  refine c3.mono ?_
  rintro e w' ⟨rfl, rfl⟩
  go_wp2
  go_ret
  exact ⟨ret_int (by rw [w_xor, w_xor]), rfl⟩

end Go.Proofs.YtjpejheipkfanaaDoor

/-
  The contract of a round of the program's sums: eight words and a number, the words behind the round. No condition.
-/
namespace Go.Proofs.YtjpejheipkfanaaDoor
open Go.RowKit

/-- A row of words as a value. -/
def wv (l : List UInt32) : Value := .agg (ws l).toArray

theorem bgE_turns (w : World) (x : UInt32) : Calls Tryd.prog 85 #[.int .u32 (x.toNat : Int), .int .i64 6, .int .i64 11, .int .i64 25] w fun e w' => e = .returned (.int .u32 ((bgE x).toNat : Int)) ∧ w = w' :=
  oTurns w x 6 11 25 (by omega) (by omega) (by omega) (by omega) (by omega) (by omega)
theorem bgA_turns (w : World) (x : UInt32) : Calls Tryd.prog 85 #[.int .u32 (x.toNat : Int), .int .i64 2, .int .i64 13, .int .i64 22] w fun e w' => e = .returned (.int .u32 ((bgA x).toNat : Int)) ∧ w = w' :=
  oTurns w x 2 13 22 (by omega) (by omega) (by omega) (by omega) (by omega) (by omega)

theorem pick_or (e f g : UInt32) : (e &&& f) ||| ((4294967295 ^^^ e) &&& g) = pck e f g := by
  unfold pck
  apply UInt32.toBitVec_inj.1
  simp only [UInt32.toBitVec_and, UInt32.toBitVec_or, UInt32.toBitVec_xor]
  apply BitVec.eq_of_getLsbD_eq
  intro i hi
  have h1 : (UInt32.toBitVec 4294967295).getLsbD i = true := by
    have : ∀ j : Fin 32, (UInt32.toBitVec 4294967295).getLsbD j.val = true := by decide
    exact this ⟨i, hi⟩
  simp only [BitVec.getLsbD_and, BitVec.getLsbD_or, BitVec.getLsbD_xor, h1]
  cases e.toBitVec.getLsbD i <;> cases f.toBitVec.getLsbD i <;> cases g.toBitVec.getLsbD i <;> rfl

theorem most_or (a b c : UInt32) : (a &&& b) ||| (a &&& c) ||| (b &&& c) = mst a b c := by
  unfold mst
  apply UInt32.toBitVec_inj.1
  simp only [UInt32.toBitVec_and, UInt32.toBitVec_or, UInt32.toBitVec_xor]
  apply BitVec.eq_of_getLsbD_eq
  intro i hi
  simp only [BitVec.getLsbD_and, BitVec.getLsbD_or, BitVec.getLsbD_xor]
  cases a.toBitVec.getLsbD i <;> cases b.toBitVec.getLsbD i <;> cases c.toBitVec.getLsbD i <;> rfl

theorem max32 : IntKind.u32.max = (((4294967295 : UInt32)).toNat : Int) := rfl
theorem pick_code (e f g : UInt32) : bits .or .u32 (bits .and .u32 (e.toNat : Int) (f.toNat : Int)) (bits .and .u32 (bits .xor .u32 IntKind.u32.max (e.toNat : Int)) (g.toNat : Int)) = ((pck e f g).toNat : Int) := by
  rw [max32, w_xor, w_and, w_and, w_or, pick_or]
theorem most_code (a b c : UInt32) : bits .or .u32 (bits .or .u32 (bits .and .u32 (a.toNat : Int) (b.toNat : Int)) (bits .and .u32 (a.toNat : Int) (c.toNat : Int))) (bits .and .u32 (b.toNat : Int) (c.toNat : Int)) = ((mst a b c).toNat : Int) := by
  rw [w_and, w_and, w_and, w_or, w_or, most_or]

theorem round_one (a b c e f g h k : UInt32) : ((h.toNat : Int) + ((bgE e).toNat : Int) + ((pck e f g).toNat : Int) + (k.toNat : Int) + (((bgA a).toNat : Int) + ((mst a b c).toNat : Int))) % 4294967296 = ((tOne e f g h k + (bgA a + mst a b c)).toNat : Int) := by
  simp only [tOne, UInt32.toNat_add]
  omega
theorem round_five (d e f g h k : UInt32) : ((d.toNat : Int) + ((h.toNat : Int) + ((bgE e).toNat : Int) + ((pck e f g).toNat : Int) + (k.toNat : Int))) % 4294967296 = ((d + tOne e f g h k).toNat : Int) := by
  simp only [tOne, UInt32.toNat_add]
  omega


set_option maxHeartbeats 1000000 in
theorem oRound (w : World) (a b c d e f g z k : UInt32) :
    Calls Tryd.prog 81 #[.agg #[.int .u32 (a.toNat : Int), .int .u32 (b.toNat : Int), .int .u32 (c.toNat : Int), .int .u32 (d.toNat : Int), .int .u32 (e.toNat : Int), .int .u32 (f.toNat : Int), .int .u32 (g.toNat : Int), .int .u32 (z.toNat : Int)], .int .u32 (k.toNat : Int)] w
      fun r w' => r = .returned (wv (rnd [a, b, c, d, e, f, g, z] k)) ∧ Below w.heap.size w w' := by
  go_enter Tryd.func81, Tryd.ntmps81
  go_wp2_with fail
  go_quiet (fail)
  go_wp2_with fail
  refine (bgE_turns _ e).mono ?_
  rintro r w1 ⟨rfl, rfl⟩
  go_wp2_with fail
  refine (bgA_turns _ a).mono ?_
  rintro r w1 ⟨rfl, rfl⟩
  go_wp2_with fail
  rw [pick_code, most_code, round_one, round_five]
  refine bodyPost_ret (v := wv (rnd [a, b, c, d, e, f, g, z] k)) (by simp [results, Tryd.results81, go_sem, wv, rnd, ws]) rfl ⟨rfl, ?_⟩
  iterate 8 (refine Below.setCell ?_ (by show w.heap.size ≤ w.heap.size + 1; omega) _)
  exact below_drN (below2 w _ _) _

end Go.Proofs.YtjpejheipkfanaaDoor

/-
  Eight words in a row, and the round on them; how many cells the types of sums take. No condition.
-/
namespace Go.Proofs.YtjpejheipkfanaaDoor
open Go.RowKit

theorem ws_len8 {v : List UInt32} (h : v.length = 8) : ∃ a b c d e f g z, v = [a, b, c, d, e, f, g, z] := by
  match v, h with
  | [a, b, c, d, e, f, g, z], _ => exact ⟨a, b, c, d, e, f, g, z, rfl⟩

theorem rnd_length (v : List UInt32) (k : UInt32) : (rnd v k).length = v.length := by
  unfold rnd
  split <;> simp
theorem rnds_length (h w : List UInt32) (n : Nat) : (rnds h w n).length = h.length := by
  induction n with
  | zero => rfl
  | succ n ih => rw [rnds, rnd_length, ih]

/-- The round, of a row of eight words. -/
theorem oRoundL (w : World) (v : List UInt32) (k : UInt32) (hv : v.length = 8) : Calls Tryd.prog 81 #[wv v, .int .u32 (k.toNat : Int)] w fun r w' => r = .returned (wv (rnd v k)) ∧ Below w.heap.size w w' := by
  obtain ⟨a, b, c, d, e, f, g, z, rfl⟩ := ws_len8 hv
  exact oRound w a b c d e f g z k

theorem size46 : (Tryd.prog.info? 138).map (·.size) = some 8 := by kernel_rfl
theorem size48 : (Tryd.prog.info? 128).map (·.size) = some 64 := by kernel_rfl
theorem size56 : (Tryd.prog.info? 145).map (·.size) = some 64 := by kernel_rfl
theorem size24 : (Tryd.prog.info? 111).map (·.size) = some 32 := by kernel_rfl

end Go.Proofs.YtjpejheipkfanaaDoor

/-
  The contract of 'added': eight words and eight more, one by one. No condition.
-/
namespace Go.Proofs.YtjpejheipkfanaaDoor
open Go.RowKit
attribute [local go_sem ↓] Go.wp_at_zero Go.wp_at_succ

theorem add8_length {h v : List UInt32} (hh : h.length = 8) (hv : v.length = 8) : (add8 h v).length = 8 := by simp [add8, hh, hv]

def mix (k : Nat) (h v : List UInt32) : List UInt32 := (add8 h v).take k ++ h.drop k
theorem mix_length {k : Nat} {h v : List UInt32} (hh : h.length = 8) (hv : v.length = 8) (hk : k ≤ 8) : (mix k h v).length = 8 := by simp [mix, add8, hh, hv]; omega
theorem mix_at {k : Nat} {h v : List UInt32} (hh : h.length = 8) (hv : v.length = 8) (hk : k < 8) : (ws (mix k h v))[k]? = some (.int .u32 ((h.getD k 0).toNat : Int)) := by
  obtain ⟨a, b, c, d, e, f, g, z, rfl⟩ := ws_len8 hh
  obtain ⟨a1, b1, c1, d1, e1, f1, g1, z1, rfl⟩ := ws_len8 hv
  match k, hk with
  | 0, _ => rfl
  | 1, _ => rfl
  | 2, _ => rfl
  | 3, _ => rfl
  | 4, _ => rfl
  | 5, _ => rfl
  | 6, _ => rfl
  | 7, _ => rfl
theorem mix_set {k : Nat} {h v : List UInt32} (hh : h.length = 8) (hv : v.length = 8) (hk : k < 8) : (ws (mix k h v)).set k (.int .u32 ((h.getD k 0 + v.getD k 0).toNat : Int)) = ws (mix (k + 1) h v) := by
  obtain ⟨a, b, c, d, e, f, g, z, rfl⟩ := ws_len8 hh
  obtain ⟨a1, b1, c1, d1, e1, f1, g1, z1, rfl⟩ := ws_len8 hv
  match k, hk with
  | 0, _ => rfl
  | 1, _ => rfl
  | 2, _ => rfl
  | 3, _ => rfl
  | 4, _ => rfl
  | 5, _ => rfl
  | 6, _ => rfl
  | 7, _ => rfl
theorem mix_end {h v : List UInt32} (hh : h.length = 8) (hv : v.length = 8) : mix 8 h v = add8 h v := by
  obtain ⟨a, b, c, d, e, f, g, z, rfl⟩ := ws_len8 hh
  obtain ⟨a1, b1, c1, d1, e1, f1, g1, z1, rfl⟩ := ws_len8 hv
  rfl
theorem w_add' (x y : UInt32) : ((x.toNat : Int) + (y.toNat : Int)) % 4294967296 = ((x + y).toNat : Int) := by
  rw [UInt32.toNat_add]; omega
theorem ws_at {u : List UInt32} {k : Nat} (h : k < u.length) : (ws u)[k]? = some (.int .u32 ((u.getD k 0).toNat : Int)) := ws_get h

set_option maxHeartbeats 1000000 in
theorem oAdded (w : World) (v u : List UInt32) (hv : v.length = 8) (hu : u.length = 8) :
    Calls Tryd.prog 82 #[wv v, wv u] w fun r w' => r = .returned (wv (add8 v u)) ∧ Below w.heap.size w w' := by
  unfold wv
  go_enter Tryd.func82, Tryd.ntmps82
  go_wp2_with fail
  go_loopw [5, 6] (fun _ i wr => ∃ k : Nat, k ≤ 8 ∧ i = .int .i64 k ∧ Blk wr w.heap.size (ws (mix k v u)) 138 ∧ Blk wr (w.heap.size + 1) (ws u) 138 ∧ (∃ z : List UInt32, z.length = 8 ∧ Blk wr (w.heap.size + 1 + 1) (ws z) 138) ∧ Below w.heap.size w wr) (fun _ i _ => 8 - (intOf i).toNat)
  case atStart =>
    exact ⟨0, by omega, rfl, (((Blk.new w _ _).old _).old _), ((Blk.newAt (w.alloc _) _ _ _ (by simp) _ rfl).old _), ⟨List.replicate 8 0, rfl, Blk.newAt ((w.alloc _).alloc _) _ _ _ (by simp) _ rfl⟩, below3 w _ _ _⟩
  case round =>
    obtain ⟨k, hk, rfl, b0, b1, ⟨z, hz, b2⟩, hb⟩ := hrel
    by_cases hlt : k < 8
    · have c0 := b0.cell k
      rw [mix_at hv hu hlt] at c0
      have c1 := b1.cell k
      rw [ws_at (by omega)] at c1
      have f0 := b0.free k
      have h0 : (0 : Int) ≤ (k : Int) := by omega
      have h8 : (k : Int) < 8 := by omega
      generalize hp : v.getD k 0 = p at c0
      generalize hq : u.getD k 0 = q at c1
      have HP : Hid (v.getD k 0 = p ∧ u.getD k 0 = q) := ⟨hp, hq⟩
      clear hp hq
      go_wp2_with fail
      go_region
      go_wp2_with fail
      go_roundw
      case rel =>
        refine ⟨k + 1, by omega, by go_num, ?_, b1.setO (by simp) _, ⟨z, hz, b2.setO (by simp; omega) _⟩, (hb.setCell (Nat.le_refl _) _).drew⟩
        obtain ⟨rfl, rfl⟩ := HP.out
        rw [← mix_set hv hu hlt, w_add']
        exact b0.setC k _
      case measure => simp [intOf]; omega
    · obtain rfl : k = 8 := by omega
      rw [mix_end hv hu] at b0
      have hl : (ws (add8 v u)).length = 8 := by rw [ws_length]; exact add8_length hv hu
      have HL : Hid ((ws (add8 v u)).length = 8) := hl
      clear hl
      go_wp2_with (first
        | (with_reducible refine at_ld 138 ?_; refine ld 138 (.tmp 2) 8 size46 _ Tryd.underlying138 rfl w.heap.size 0 _ HL.out b0.whole rfl ?_)
        | (with_reducible refine at_st 138 ?_; refine st 138 (.tmp 4) (.tmp 18) 8 size46 (w.heap.size + 1 + 1) 0 _ HL.out ws_one (b2.there 0 8 (by rw [ws_length, hz]; omega)) rfl rfl ?_))
      have b3 := b2.setsW (ws (add8 v u)) (by rw [HL.out, ws_length, hz])
      exact bodyPost_ret (v := .agg (ws (add8 v u)).toArray) (res_blk Tryd.results82 _ _ (w.heap.size + 1 + 1) _ _ _ rfl b3 Tryd.underlying138 8 HL.out size46) rfl ⟨rfl, below_sets (by omega) _ hb 0⟩

end Go.Proofs.YtjpejheipkfanaaDoor

/-
  The contract of the reference's Get: the number of a row of bytes, the highest first, of the last eight. No condition.
-/
namespace Go.Proofs.YtjpejheipkfanaaDoor
open Go.RowKit

end Go.Proofs.YtjpejheipkfanaaDoor

/-
  The contract of 'spread': the words of a block's rounds, out of the block's 64 bytes. No condition.
-/
namespace Go.Proofs.YtjpejheipkfanaaDoor
open Go.RowKit

def zw : List UInt32 := List.replicate 64 0
theorem zw_length : zw.length = 64 := rfl

theorem schd_length (b : List UInt8) (n : Nat) : (schd b n).length = n := by
  induction n with
  | zero => rfl
  | succ n ih => rw [schd]; split <;> simp [ih]

/-- What stands in the variable behind k words. -/
def fil (b : List UInt8) (k : Nat) : List UInt32 := schd b k ++ List.replicate (64 - k) 0
theorem fil_length {b : List UInt8} {k : Nat} (hk : k ≤ 64) : (fil b k).length = 64 := by simp [fil, schd_length]; omega
theorem fil_end (b : List UInt8) : fil b 64 = schd b 64 := by simp [fil]
theorem fil_at {b : List UInt8} {k j : Nat} (hk : k ≤ 64) (hj : j < k) : (ws (fil b k))[j]? = some (.int .u32 (((schd b k).getD j 0).toNat : Int)) := by
  rw [ws_get (by rw [fil_length hk]; omega)]
  have := schd_length b k
  have e : (fil b k).getD j 0 = (schd b k).getD j 0 := by simp [fil, List.getD_eq_getElem?_getD, List.getElem?_append, this, hj]
  unfold wt
  rw [e]
theorem set_snoc (A : List UInt32) (m : Nat) (x : UInt32) (h : 0 < m) : (A ++ List.replicate m 0).set A.length x = (A ++ [x]) ++ List.replicate (m - 1) 0 := by
  rw [List.set_append]
  simp
  cases m with
  | zero => omega
  | succ m => simp [List.replicate_succ]
theorem fil_set {b : List UInt8} {k : Nat} (hk : k < 64) {x : UInt32} (e : schd b (k + 1) = schd b k ++ [x]) : (ws (fil b k)).set k (.int .u32 (x.toNat : Int)) = ws (fil b (k + 1)) := by
  have h := set_snoc (schd b k) (64 - k) x (by omega)
  rw [schd_length] at h
  unfold fil
  rw [e, show 64 - (k + 1) = 64 - k - 1 from by omega, ← h]
  simp [ws, List.map_set]
theorem schd_low {b : List UInt8} {k : Nat} (hk : k < 16) : schd b (k + 1) = schd b k ++ [wordAt b k] := by rw [schd, if_pos hk]
theorem schd_high {b : List UInt8} {k : Nat} (hk : ¬ k < 16) : schd b (k + 1) = schd b k ++ [wnext (schd b k) k] := by rw [schd, if_neg hk]

theorem len48 : Tryd.prog.arrayLen 128 = 64 := by kernel_rfl
theorem und48 : Tryd.prog.underlying 128 = some (.array (Tryd.prog.arrayLen 128) (Tryd.prog.elem 128)) := by kernel_rfl
theorem el48 (w : World) : Sem.run Tryd.prog (sizeOf (Tryd.prog.elem 128)) w = .ok 1 w := by kernel_rfl
theorem cut4 (g k : Nat) (hk : k < 16) (w : World) : Sem.run Tryd.prog (Instr.sliceAt 128 (.pointer (some ⟨g, 0, none⟩)) (some (.int .i64 ((k : Int) * 4))) (some (.int .i64 (((k : Int) + 1) * 4))) none) w = .ok (.slice (some ⟨g, k * 4, none⟩) 4 (64 - k * 4)) w := by
  rw [run_sliceAt_array_lh w 128 _ und48 .i64 .i64 _ _ (by omega) (by omega) (by rw [len48]; omega), el48]
  simp only [Result.andThen, slicedAt, len48]
  have e1 : ((k : Int) * 4).toNat = k * 4 := by omega
  have e2 : (((k : Int) + 1) * 4).toNat - k * 4 = 4 := by omega
  rw [e1, e2, if_neg (by omega), add_mid', Nat.mul_one, Nat.zero_add]

theorem word_low (b : List UInt8) (k : Nat) : ((getN ((b.drop (k * 4)).take 4) : Nat) : Int) % 4294967296 = ((wordAt b k).toNat : Int) := by
  unfold wordAt
  rw [UInt32.toNat_ofNat', Nat.mul_comm 4 k]
  omega

theorem wrap_sub {k : Nat} (n : Int) (h0 : 0 ≤ n) (h1 : n ≤ 1000000) (h : k ≤ 1000000) : IntKind.i64.wrap ((k : Int) - n) = (k : Int) - n := by
  rw [IntKind.wrap_i64]; omega

theorem cell_beside (w : World) {g j k : Nat} (v : Value) (h : j ≠ k) : (w.setCell ⟨g, k, none⟩ v).drew.cell? ⟨g, j, none⟩ = w.cell? ⟨g, j, none⟩ := by
  show (w.setCell ⟨g, k, none⟩ v).cell? ⟨g, j, none⟩ = _
  exact World.cell?_setCells_out g [v] k w ⟨g, j, none⟩ (fun _ _ => by simp; omega)

set_option maxHeartbeats 1000000 in
theorem oSpread (w : World) (b : List UInt8) (hl : b.length = 64) :
    Calls Tryd.prog 80 #[bv b] w fun r w' => r = .returned (wv (schd b 64)) ∧ Below w.heap.size w w' := by
  unfold bv wv
  go_enter Tryd.func80, Tryd.ntmps80
  go_wp2_with fail
  go_loopw [4, 6] (fun _ i wr => ∃ k : Nat, k ≤ 16 ∧ i = .int .i64 k ∧ Blk wr w.heap.size (cs b) 128 ∧ (∃ z : List UInt32, z.length = 64 ∧ Blk wr (w.heap.size + 1) (ws z) 145) ∧ Blk wr (w.heap.size + 1 + 1) (ws (fil b k)) 145 ∧ Below w.heap.size w wr) (fun _ i _ => 16 - (intOf i).toNat)
  case atStart =>
    exact ⟨0, by omega, rfl, ((Blk.new w _ _).old _).old _, ⟨zw, rfl, (Blk.newAt (w.alloc _) _ _ _ (by simp) _ rfl).old _⟩, Blk.newAt ((w.alloc _).alloc _) _ _ _ (by simp) _ rfl, below3 w _ _ _⟩
  case round =>
    obtain ⟨k, hk, rfl, b0, ⟨z, hz, b1⟩, b2, hb⟩ := hrel
    by_cases hlt : k < 16
    · have h0 : (0 : Int) ≤ (k : Int) := by omega
      have h8 : (k : Int) < 16 := by omega
      have f0 := b2.free k
      have c0 : ∃ v, wr.cell? ⟨w.heap.size + 1 + 1, k, none⟩ = some v := by rw [b2.cell, ws_get (by rw [fil_length (by omega)]; omega)]; exact ⟨_, rfl⟩
      obtain ⟨v0, c0⟩ := c0
      have hs := cut4 w.heap.size k hlt
      have hB := b0.bs (k * 4) (64 - k * 4) ((b.drop (k * 4)).take 4) (fun j v hv => cs_sub hv) (by simp; omega) (by omega)
      have e4 : ((b.drop (k * 4)).take 4).length = 4 := by simp [hl]; omega
      rw [e4] at hB
      clear e4
      go_wp2_with fail
      refine (oGet wr hB).mono ?_
      rintro e w1 ⟨rfl, rfl⟩
      go_wp2_with fail
      go_roundw
      case rel =>
        refine ⟨k + 1, by omega, by go_num, b0.setO (by simp; omega) _, ⟨z, hz, b1.setO (by simp) _⟩, ?_, hb.setCell (by simp; omega) _⟩
        rw [← fil_set (by omega) (schd_low hlt), word_low]
        exact b2.setC k _
      case measure => simp [intOf]; omega
    · rw [show k = 16 from by omega] at b2
      clear b0
      go_wp2_with fail
      go_loopw [5] (fun i wr => ∃ k : Nat, 16 ≤ k ∧ k ≤ 64 ∧ i = .int .i64 k ∧ (∃ z : List UInt32, z.length = 64 ∧ Blk wr (w.heap.size + 1) (ws z) 145) ∧ Blk wr (w.heap.size + 1 + 1) (ws (fil b k)) 145 ∧ Below w.heap.size w wr) (fun i _ => 64 - (intOf i).toNat)
      case atStart => exact ⟨16, by omega, by omega, rfl, ⟨z, hz, b1⟩, b2, hb⟩
      case round =>
        clear b1 b2 hb hz z hk hlt
        obtain ⟨k, hk16, hk, rfl, ⟨z, hz, b1⟩, b2, hb⟩ := hrel
        by_cases hlt : k < 64
        · have h0 : (16 : Int) ≤ (k : Int) := by omega
          have h8 : (k : Int) < 64 := by omega
          have hi : (0 : Int) ≤ (k : Int) := by omega
          have c1 : ∀ j, j < k → wr.cell? ⟨w.heap.size + 1 + 1, j, none⟩ = some (.int .u32 (((schd b k).getD j 0).toNat : Int)) := fun j hj => by rw [b2.cell, fil_at hk hj]
          have c16 := c1 (k - 16) (by omega)
          have c7 := c1 (k - 7) (by omega)
          have c15 := c1 (k - 15) (by omega)
          have c2 := c1 (k - 2) (by omega)
          clear c1
          obtain ⟨x16, hx16⟩ : ∃ x, (schd b k).getD (k - 16) 0 = x := ⟨_, rfl⟩
          obtain ⟨x15, hx15⟩ : ∃ x, (schd b k).getD (k - 15) 0 = x := ⟨_, rfl⟩
          obtain ⟨x7, hx7⟩ : ∃ x, (schd b k).getD (k - 7) 0 = x := ⟨_, rfl⟩
          obtain ⟨x2, hx2⟩ : ∃ x, (schd b k).getD (k - 2) 0 = x := ⟨_, rfl⟩
          rw [hx16] at c16
          rw [hx15] at c15
          rw [hx7] at c7
          rw [hx2] at c2
          have HX : Hid (wnext (schd b k) k = x16 + x7 + sgA x15 + sgB x2) := by
            unfold wnext
            rw [hx16, hx7, hx15, hx2]
            trivial
          clear hx16 hx7 hx15 hx2
          have f0 := b2.free k
          have c0 : ∃ v, wr.cell? ⟨w.heap.size + 1 + 1, k, none⟩ = some v := by rw [b2.cell, ws_get (by rw [fil_length (by omega)]; omega)]; exact ⟨_, rfl⟩
          obtain ⟨v0, c0⟩ := c0
          have s16 := wrap_sub (k := k) 16 (by omega) (by omega) (by omega)
          have t16 : (16 : Int) ≤ (k : Int) := by omega
          have n16 : ¬ k - 16 = k := by omega
          have p16 : (0 : Int) ≤ (k : Int) - 16 := by omega
          have q16 : (k : Int) - 16 < 64 := by omega
          have r16 : ((k : Int) - 16).toNat = k - 16 := by omega
          have s15 := wrap_sub (k := k) 15 (by omega) (by omega) (by omega)
          have t15 : (15 : Int) ≤ (k : Int) := by omega
          have n15 : ¬ k - 15 = k := by omega
          have p15 : (0 : Int) ≤ (k : Int) - 15 := by omega
          have q15 : (k : Int) - 15 < 64 := by omega
          have r15 : ((k : Int) - 15).toNat = k - 15 := by omega
          have s7 := wrap_sub (k := k) 7 (by omega) (by omega) (by omega)
          have t7 : (7 : Int) ≤ (k : Int) := by omega
          have n7 : ¬ k - 7 = k := by omega
          have p7 : (0 : Int) ≤ (k : Int) - 7 := by omega
          have q7 : (k : Int) - 7 < 64 := by omega
          have r7 : ((k : Int) - 7).toNat = k - 7 := by omega
          have s2 := wrap_sub (k := k) 2 (by omega) (by omega) (by omega)
          have t2 : (2 : Int) ≤ (k : Int) := by omega
          have n2 : ¬ k - 2 = k := by omega
          have p2 : (0 : Int) ≤ (k : Int) - 2 := by omega
          have q2 : (k : Int) - 2 < 64 := by omega
          have r2 : ((k : Int) - 2).toNat = k - 2 := by omega
          have nz : ¬ k = 0 := by omega
          go_wp2_with fail
          go_region_held3 (fun w' => w'.cell? ⟨w.heap.size + 1 + 1, k - 16, none⟩ = some (.int .u32 (x16.toNat : Int)) ∧ w'.cell? ⟨w.heap.size + 1 + 1, k - 15, none⟩ = some (.int .u32 (x15.toNat : Int)) ∧ w'.cell? ⟨w.heap.size + 1 + 1, k - 7, none⟩ = some (.int .u32 (x7.toNat : Int)) ∧ w'.cell? ⟨w.heap.size + 1 + 1, k - 2, none⟩ = some (.int .u32 (x2.toNat : Int))) (first | (refine ⟨?_, ?_, ?_, ?_⟩ <;> (refine (cell_beside _ _ ?_).trans ?_ <;> first | assumption | omega)) | go_keep)
            (first | (go_at_call 83; refine (oEarly _ x15).mono ?_; rintro e w1 ⟨rfl, rfl⟩) | (go_at_call 84; refine (oLate _ x2).mono ?_; rintro e w1 ⟨rfl, rfl⟩))
          go_wp2_with fail
          go_roundw
          case rel =>
            refine ⟨k + 1, by omega, by omega, by go_num, ⟨z, hz, b1.setO (by simp) _⟩, ?_, (hb.setCell (by simp; omega) _).drew⟩
            rw [← fil_set (by omega) (schd_high (by omega)), HX.out]
            rw [w_add', w_add', w_add']
            exact (b2.setC k _).dr
          case measure => simp [intOf]; omega
        · obtain rfl : k = 64 := by omega
          rw [fil_end] at b2
          have HL : Hid ((ws (schd b 64)).length = 64) := by show _ = _; rw [ws_length, schd_length]
          go_wp2_with (first
            | (with_reducible refine at_ld 145 ?_; refine ld 145 (.tmp 3) 64 size56 _ Tryd.underlying145 rfl (w.heap.size + 1 + 1) 0 _ HL.out b2.whole rfl ?_)
            | (with_reducible refine at_st 145 ?_; refine st 145 (.tmp 2) (.tmp 47) 64 size56 (w.heap.size + 1) 0 _ HL.out ws_one (b1.there 0 64 (by rw [ws_length, hz]; omega)) rfl rfl ?_))
          have b3 := b1.setsW (ws (schd b 64)) (by rw [HL.out, ws_length, hz])
          exact bodyPost_ret (v := .agg (ws (schd b 64)).toArray) (res_blk Tryd.results80 _ _ (w.heap.size + 1) _ _ _ rfl b3 Tryd.underlying145 64 HL.out size56) rfl ⟨rfl, below_sets (by omega) _ hb 0⟩

end Go.Proofs.YtjpejheipkfanaaDoor

/-
  The contract of 'take': a sum so far with one more block taken. Condition: the package's constants lie where they were laid ('Kon').
-/
namespace Go.Proofs.YtjpejheipkfanaaDoor
open Go.RowKit

/-- The program's constants lie in their variable. -/
def Kon (w : World) : Prop := w.rangeAt 0 0 (ws sKs)
theorem sKs_length : sKs.length = 64 := by decide
theorem Kon.cell {w : World} (h : Kon w) (k : Nat) (hk : k < 64) : w.cell? ⟨0, k, none⟩ = some (.int .u32 ((sKs.getD k 0).toNat : Int)) := by
  have := h k _ (ws_get (by rw [sKs_length]; exact hk))
  rw [Nat.zero_add] at this
  exact this
theorem Kon.lt {w : World} (h : Kon w) : 0 < w.heap.size := lt_of_cell (h.cell 0 (by omega))
theorem Kon.below {w w' : World} (h : Kon w) {B : Nat} (hb : Below B w w') (hB : 0 < B) : Kon w' := fun j v hv => by
  rw [hb.cell (p := ⟨0, 0 + j, none⟩) hB]
  exact h j v hv

theorem tk_length {h : List UInt32} (hh : h.length = 8) (b : List UInt8) : (tk h b).length = 8 := add8_length hh (by rw [rnds_length, hh])

/-- An element of a row of words. -/
theorem idx (ty : TypeId) (n : Nat) (hu : Tryd.prog.underlying ty = some (.array n 33)) (l : List UInt32) (k : Nat) (v : Value) (hv : (ws l)[k]? = some v) (hk : k < n) (w : World) :
    Sem.run Tryd.prog (Instr.index ty (.agg (ws l).toArray) (.int .i64 (k : Int))) w = .ok v w := by
  simp [Instr.index, asIntOf, run_underlying hu, part, hv]
  omega

abbrev z46 : Array Value := #[.int .u32 0, .int .u32 0, .int .u32 0, .int .u32 0, .int .u32 0, .int .u32 0, .int .u32 0, .int .u32 0]
theorem z46_eq : z46.toList = ws (List.replicate 8 0) := rfl

abbrev tw (w : World) (h : List UInt32) (b : List UInt8) : World := (((w.alloc (.cells (ws h).toArray 138)).alloc (.cells (cs b).toArray 128)).alloc (.cells z46 138)).alloc (.cells z46 138)
theorem tw_last (w : World) (h : List UInt32) (b : List UInt8) : Blk (tw w h b) (w.heap.size + 1 + 1 + 1) (ws (List.replicate 8 0)) 138 := Blk.newAt _ _ _ _ (by simp) _ rfl
theorem tw_all (w : World) (h : List UInt32) (b : List UInt8) (hh : h.length = 8) (w1 : World) (e : w1 = (tw w h b).setCells (w.heap.size + 1 + 1 + 1) 0 (ws h)) :
    Blk w1 w.heap.size (ws h) 138 ∧ Blk w1 (w.heap.size + 1) (cs b) 128 ∧ Blk w1 (w.heap.size + 1 + 1) (ws (List.replicate 8 0)) 138 ∧ Blk w1 (w.heap.size + 1 + 1 + 1) (ws h) 138 ∧ Below w.heap.size w w1 := by
  subst e
  refine ⟨?_, ?_, ?_, ?_, ?_⟩
  · exact Blk.setsO (by omega) _ (((Blk.new w _ _).old _).old _ |>.old _) 0
  · exact Blk.setsO (by omega) _ (((Blk.newAt (w.alloc _) _ _ _ (by simp) _ rfl).old _).old _) 0
  · exact Blk.setsO (by omega) _ ((Blk.newAt ((w.alloc _).alloc _) _ _ _ (by simp) _ rfl).old _) 0
  · exact (tw_last w h b).setsW _ (by rw [ws_length, ws_length, hh]; rfl)
  · exact below_sets (by omega) _ ((below3 w _ _ _).alloc (by simp; omega) _) 0

theorem Blk.eight {w : World} {g : Nat} {v0 v1 v2 v3 v4 v5 v6 v7 : UInt32} {t : TypeId} (b : Blk w g (ws [v0, v1, v2, v3, v4, v5, v6, v7]) t) :
    w.cell? ⟨g, 0, none⟩ = some (.int .u32 (v0.toNat : Int)) ∧ w.cell? ⟨g, 1, none⟩ = some (.int .u32 (v1.toNat : Int)) ∧ w.cell? ⟨g, 2, none⟩ = some (.int .u32 (v2.toNat : Int)) ∧ w.cell? ⟨g, 3, none⟩ = some (.int .u32 (v3.toNat : Int)) ∧
      w.cell? ⟨g, 4, none⟩ = some (.int .u32 (v4.toNat : Int)) ∧ w.cell? ⟨g, 5, none⟩ = some (.int .u32 (v5.toNat : Int)) ∧ w.cell? ⟨g, 6, none⟩ = some (.int .u32 (v6.toNat : Int)) ∧ w.cell? ⟨g, 7, none⟩ = some (.int .u32 (v7.toNat : Int)) ∧
      w.frozen? ⟨g, 0, none⟩ = false ∧ w.frozen? ⟨g, 1, none⟩ = false ∧ w.frozen? ⟨g, 2, none⟩ = false ∧ w.frozen? ⟨g, 3, none⟩ = false ∧ w.frozen? ⟨g, 4, none⟩ = false ∧ w.frozen? ⟨g, 5, none⟩ = false ∧ w.frozen? ⟨g, 6, none⟩ = false ∧ w.frozen? ⟨g, 7, none⟩ = false :=
  ⟨b.cell 0, b.cell 1, b.cell 2, b.cell 3, b.cell 4, b.cell 5, b.cell 6, b.cell 7, b.free 0, b.free 1, b.free 2, b.free 3, b.free 4, b.free 5, b.free 6, b.free 7⟩

theorem oRoundT (v0 v1 v2 v3 v4 v5 v6 v7 r0 r1 r2 r3 r4 r5 r6 r7 x y : UInt32) (hr : rnd [v0, v1, v2, v3, v4, v5, v6, v7] (y + x) = [r0, r1, r2, r3, r4, r5, r6, r7]) (w : World) :
    Calls Tryd.prog 81 #[.agg #[.int .u32 (v0.toNat : Int), .int .u32 (v1.toNat : Int), .int .u32 (v2.toNat : Int), .int .u32 (v3.toNat : Int), .int .u32 (v4.toNat : Int), .int .u32 (v5.toNat : Int), .int .u32 (v6.toNat : Int), .int .u32 (v7.toNat : Int)], .int .u32 (IntKind.u32.wrap ((y.toNat : Int) + (x.toNat : Int)))] w
      fun r w' => r = .returned (.agg #[.int .u32 (r0.toNat : Int), .int .u32 (r1.toNat : Int), .int .u32 (r2.toNat : Int), .int .u32 (r3.toNat : Int), .int .u32 (r4.toNat : Int), .int .u32 (r5.toNat : Int), .int .u32 (r6.toNat : Int), .int .u32 (r7.toNat : Int)]) ∧ Below w.heap.size w w' := by
  have := oRound w v0 v1 v2 v3 v4 v5 v6 v7 (y + x)
  rw [hr] at this
  rw [w_add]
  exact this

set_option maxHeartbeats 2000000 in
theorem oTake (w : World) (hK : Kon w) (h : List UInt32) (b : List UInt8) (hh : h.length = 8) (hl : b.length = 64) :
    Calls Tryd.prog 77 #[wv h, bv b] w fun r w' => r = .returned (wv (tk h b)) ∧ Below w.heap.size w w' := by
  have hsp := fun w => oSpread w b hl
  have HSP : Hid (∀ w, Calls Tryd.prog 80 #[bv b] w fun r w' => r = .returned (wv (schd b 64)) ∧ Below w.heap.size w w') := hsp
  clear hsp
  have HL : Hid ((ws h).length = 8) := by show _ = _; rw [ws_length, hh]
  have HB : Hid ((cs b).length = 64) := by show _ = _; rw [cs_length, hl]
  have HN : Hid (h.length = 8) := hh
  clear hh hl
  unfold wv bv at *
  go_enter Tryd.func77, Tryd.ntmps77
  go_wp2_with (first
    | (with_reducible refine at_ld 138 ?_; refine ld 138 (.tmp 2) 8 size46 _ Tryd.underlying138 rfl w.heap.size 0 _ HL.out (((Blk.new w _ _).old _).old _).whole rfl ?_)
    | (with_reducible refine at_st 138 ?_; refine st' 138 (.tmp 5) (.tmp 8) 8 size46 (w.heap.size + 1 + 1 + 1) 0 _ HL.out ws_one ((tw_last w h b).there 0 8 (by rw [ws_length]; decide)) rfl rfl ?_; intro w1 hw1; obtain ⟨b0, b1, b2, b3, hb⟩ := tw_all w h b HN.out w1 hw1; clear hw1)
    | (with_reducible refine at_ld 128 ?_; refine ld 128 (.tmp 3) 64 size48 _ Tryd.underlying128 rfl (w.heap.size + 1) 0 _ HB.out b1.whole rfl ?_)
    | (go_at_call 80; refine (HSP.out w1).mono ?_; rintro e w2 ⟨rfl, hb2⟩))
  have hs := b3.lt
  have d0 := b0.below hb2 b0.lt
  have d2 := b2.below hb2 b2.lt
  have d3 := b3.below hb2 b3.lt
  have hb3 := hb.trans (hb2.mono (by omega))
  clear b0 b1 b2 b3 hb hb2 hs
  go_loopw [6, 7, 11] (fun _ _ i wr => ∃ k : Nat, k ≤ 64 ∧ i = .int .i64 k ∧ Blk wr w.heap.size (ws h) 138 ∧ Blk wr (w.heap.size + 1 + 1) (ws (List.replicate 8 0)) 138 ∧ Blk wr (w.heap.size + 1 + 1 + 1) (ws (rnds h (schd b 64) k)) 138 ∧ Below w.heap.size w wr) (fun _ _ i _ => 64 - (intOf i).toNat)
  case atStart => exact ⟨0, by omega, rfl, d0, d2, d3, hb3⟩
  case round =>
    clear d0 d2 d3 hb3
    obtain ⟨k, hk, rfl, b0, b2, b3, hb⟩ := hrel
    by_cases hlt : k < 64
    · have h0 : (0 : Int) ≤ (k : Int) := by omega
      have h8 : (k : Int) < 64 := by omega
      obtain ⟨x, hx⟩ : ∃ x, (schd b 64).getD k 0 = x := ⟨_, rfl⟩
      obtain ⟨y, hy⟩ : ∃ x, sKs.getD k 0 = x := ⟨_, rfl⟩
      have c1 := ws_get (l := schd b 64) (i := k) (by rw [schd_length]; exact hlt)
      have hix := idx 145 64 Tryd.underlying145 (schd b 64) k
      have hK1 := (hK.below hb hK.lt).cell k hlt
      rw [hy] at hK1
      unfold wt at c1
      rw [hx] at c1
      have HR : Hid (rnds h (schd b 64) (k + 1) = rnd (rnds h (schd b 64) k) (y + x)) := by show _ = _; rw [rnds, hx, hy]
      clear hx hy
      replace hix := hix _ c1 hlt
      clear c1
      have hv : (rnds h (schd b 64) k).length = 8 := by rw [rnds_length]; exact HN.out
      generalize hgv : rnds h (schd b 64) k = v at b3 hv HR
      obtain ⟨v0, v1, v2, v3, v4, v5, v6, v7, rfl⟩ := ws_len8 hv
      clear hv hgv
      obtain ⟨q0, q1, q2, q3, q4, q5, q6, q7, p0, p1, p2, p3, p4, p5, p6, p7⟩ := b3.eight
      obtain ⟨r0, r1, r2, r3, r4, r5, r6, r7, hr⟩ := ws_len8 (v := rnd [v0, v1, v2, v3, v4, v5, v6, v7] (y + x)) (by rw [rnd_length]; rfl)
      have cR := oRoundT v0 v1 v2 v3 v4 v5 v6 v7 r0 r1 r2 r3 r4 r5 r6 r7 x y hr
      rw [hr] at HR
      have CR : Hid (∀ w, _) := cR
      clear cR hr
      go_wp2_with fail
      go_region_with (go_at_call 81; refine (CR.out wr.drew).mono ?_; rintro e w3 ⟨rfl, hb3⟩; have b4 := b3.dr.below hb3 b3.lt; obtain ⟨q0', q1', q2', q3', q4', q5', q6', q7', p0', p1', p2', p3', p4', p5', p6', p7'⟩ := b4.eight)
      all_goals
        go_wp2_with fail
        go_roundw
        case rel =>
          have hz := b3.lt
          refine ⟨k + 1, by omega, by go_num, ?_, ?_, ?_, ?_⟩
          · exact Blk.setsO (by omega) (ws [r0, r1, r2, r3, r4, r5, r6, r7]) (b0.dr.below hb3 b0.lt) 0
          · exact Blk.setsO (by omega) (ws [r0, r1, r2, r3, r4, r5, r6, r7]) (b2.dr.below hb3 b2.lt) 0
          · rw [HR.out]
            exact Blk.setsW b4 (ws [r0, r1, r2, r3, r4, r5, r6, r7]) rfl
          · exact below_sets (by omega) (ws [r0, r1, r2, r3, r4, r5, r6, r7]) (hb.drew.trans (hb3.mono (by show w.heap.size ≤ wr.heap.size; omega))) 0
        case measure => simp [intOf]; omega
    · obtain rfl : k = 64 := by omega
      have HV : Hid ((ws (rnds h (schd b 64) 64)).length = 8) := by show _ = _; rw [ws_length, rnds_length]; exact HN.out
      have HT : Hid ((ws (tk h b)).length = 8) := by show _ = _; rw [ws_length]; exact tk_length HN.out b
      have CA : Hid (∀ w, Calls Tryd.prog 82 #[.agg (ws h).toArray, .agg (ws (rnds h (schd b 64) 64)).toArray] w fun r w' => r = .returned (.agg (ws (tk h b)).toArray) ∧ Below w.heap.size w w') := fun w => oAdded w h _ HN.out (by rw [rnds_length]; exact HN.out)
      go_wp2_with (first
        | (with_reducible refine at_ld 138 ?_; refine ld 138 (.tmp 2) 8 size46 _ Tryd.underlying138 rfl w.heap.size 0 _ HL.out b0.whole rfl ?_)
        | (with_reducible refine at_ld 138 ?_; refine ld 138 (.tmp 5) 8 size46 _ Tryd.underlying138 rfl (w.heap.size + 1 + 1 + 1) 0 _ HV.out b3.whole rfl ?_)
        | (go_at_call 82; refine (CA.out wr).mono ?_; rintro e w4 ⟨rfl, hb4⟩; have b5 := b2.below hb4 b2.lt)
        | (with_reducible refine at_st 138 ?_; refine st 138 (.tmp 4) (.tmp 25) 8 size46 (w.heap.size + 1 + 1) 0 _ HT.out ws_one (b5.there 0 8 (by rw [ws_length]; decide)) rfl rfl ?_))
      have b6 := b5.setsW (ws (tk h b)) (by rw [HT.out]; rfl)
      have hz := b3.lt
      exact bodyPost_ret (v := .agg (ws (tk h b)).toArray) (res_blk Tryd.results77 _ _ (w.heap.size + 1 + 1) _ _ _ rfl b6 Tryd.underlying138 8 HT.out size46) rfl ⟨rfl, below_sets (by omega) _ (hb.trans (hb4.mono (by omega))) 0⟩

end Go.Proofs.YtjpejheipkfanaaDoor
