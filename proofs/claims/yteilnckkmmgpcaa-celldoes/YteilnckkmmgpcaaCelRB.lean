/-
  The contract of layer 10's reference's Write. Conditions: fewer than 2^40 steps.
-/
import Derived.Test.YteilnckkmmgpcaaCelRA
import Derived.Test.YteilnckkmmgpcaaCelRC
namespace Go.Proofs.Yteilnckkmmgpcaa
open Go.RowKit

/-- A struct and a value handed back. -/
theorem resCT {fn : Func} {p t : Tmp} {ty : TypeId} (h : fn.results = #[.cell p ty, .tmp t]) (tmps : Array Value) (w : World) (g : Nat) (cs : Array Value) (hp : tmps.getD p undef = .pointer (some ⟨g, 0, none⟩)) (hl : (loadVar ty ⟨g, 0, none⟩).run Try.prog w = .ok (.agg cs) w) (x : Value) (hx : tmps.getD t undef = x) : (results fn tmps).run Try.prog w = .ok (.tuple #[.agg cs, x]) w := by
  have hp' : tmps[p]?.getD undef = .pointer (some ⟨g, 0, none⟩) := by simpa using hp
  have hx' : tmps[t]?.getD undef = x := by simpa using hx
  simp [results, h, hp', hx', asAddr, hl]
set_option maxRecDepth 100000 in
set_option maxHeartbeats 4000000 in
theorem rCWrite (w : World) {A : Nat → Prop} {C : CelS} {q : Tri} (h : RC A w C q) (hA : ∀ j, w.heap.size ≤ j → A j) {m : Nat} (hf : C.fit m) (hm : m ≤ 1000000) (at_ : Int) (hat : i64 at_) {ba : Option Addr} {bn bc : Nat} {b : List UInt8} (hb : Bs w ba bn bc b) :
    Calls Try.prog 14 #[cv C q, .int .i64 at_, .slice ba bn bc] w fun e w' => ∃ q', e = .returned (.tuple #[cv (C.write at_ b).1 q', .int .i64 (C.write at_ b).2]) ∧ RC A w' (C.write at_ b).1 q' ∧ Below w.heap.size w w' := by
  have hfp := hf.p
  have hfw := hf.writes
  have hfl := hf.l
  have HF : Hid (C.fit m) := hf
  obtain ⟨S, l, n⟩ := C
  obtain ⟨la, ln, lc⟩ := q
  have hbl := hb.len
  have hbm := hb.max
  have hl : l.length = ln := Sl.len h
  unfold CelS.write
  dsimp only at hfp hfw hfl ⊢
  have HR : Hid (RC A w ⟨S, l, n⟩ ⟨la, ln, lc⟩) := h
  have HB : Hid (Bs w ba bn bc b) := hb
  clear h hb hf
  unfold cv cc
  dsimp only
  by_cases h1 : at_ < 0 ∨ 3 < at_
  · rw [if_pos h1]
    have key : Hid (∀ u, Below w.heap.size w u → ∃ q', (.returned (.tuple #[.agg #[.int .i64 (S.steps : Int), .int .i64 S.fuse, .bool S.done, .bool S.down, .slice la ln lc, .int .i64 (n : Int)], .int .i64 2]) : Ending) = .returned (.tuple #[cv ⟨S, l, n⟩ q', .int .i64 2]) ∧ RC A u ⟨S, l, n⟩ q' ∧ Below w.heap.size w u) := fun u hu => ⟨⟨la, ln, lc⟩, rfl, HR.out.below hu, hu⟩
    clear HF HR HB hfp hfw hfl hl
    by_cases i1 : at_ < 0
    · go_enter Try.func14, Try.ntmps14
      go_wp2_with fail
      exact bodyPost_ret (v := .tuple #[.agg #[.int .i64 (S.steps : Int), .int .i64 S.fuse, .bool S.done, .bool S.down, .slice la ln lc, .int .i64 (n : Int)], .int .i64 2]) (by simp [results, Try.results14, go_sem]) rfl (key.out _ (below2 _ _ _))
    · have i2 : 3 < at_ := by omega
      go_enter Try.func14, Try.ntmps14
      go_wp2_with fail
      exact bodyPost_ret (v := .tuple #[.agg #[.int .i64 (S.steps : Int), .int .i64 S.fuse, .bool S.done, .bool S.down, .slice la ln lc, .int .i64 (n : Int)], .int .i64 2]) (by simp [results, Try.results14, go_sem]) rfl (key.out _ (below2 _ _ _))
  · rw [if_neg h1]
    have i1 : ¬ at_ < 0 := by omega
    have i2 : ¬ 3 < at_ := by omega
    by_cases h2 : 1024 < b.length
    · rw [if_pos h2]
      have i3 : (1024 : Int) < (bn : Int) := by omega
      have key : Hid (∀ u, Below w.heap.size w u → ∃ q', (.returned (.tuple #[.agg #[.int .i64 (S.steps : Int), .int .i64 S.fuse, .bool S.done, .bool S.down, .slice la ln lc, .int .i64 (n : Int)], .int .i64 17]) : Ending) = .returned (.tuple #[cv ⟨S, l, n⟩ q', .int .i64 17]) ∧ RC A u ⟨S, l, n⟩ q' ∧ Below w.heap.size w u) := fun u hu => ⟨⟨la, ln, lc⟩, rfl, HR.out.below hu, hu⟩
      clear HF HR HB hfp hfw hfl hl h2
      go_enter Try.func14, Try.ntmps14
      go_wp2_with fail
      exact bodyPost_ret (v := .tuple #[.agg #[.int .i64 (S.steps : Int), .int .i64 S.fuse, .bool S.done, .bool S.down, .slice la ln lc, .int .i64 (n : Int)], .int .i64 17]) (by simp [results, Try.results14, go_sem]) rfl (key.out _ (below2 _ _ _))
    · rw [if_neg h2]
      have i3 : ¬ (1024 : Int) < (bn : Int) := by omega
      have CS : Hid (∀ u, Calls Try.prog 25 #[.agg #[.int .i64 (S.steps : Int), .int .i64 S.fuse, .bool S.done, .bool S.down]] u fun e w' => e = .returned (.tuple #[.agg #[.int .i64 (S.next.steps : Int), .int .i64 S.next.fuse, .bool S.next.done, .bool S.next.down], .bool S.ok, .bool S.does]) ∧ Below u.heap.size u w') := fun u => rPStep u S hfp (by omega)
      unfold CelS.wrote
      dsimp only
      obtain ⟨P1, hP1⟩ : ∃ P1, P1 = S.next := ⟨_, rfl⟩
      rw [← hP1] at CS ⊢
      obtain ⟨ok, hok⟩ : ∃ ok, ok = S.ok := ⟨_, rfl⟩
      rw [← hok] at CS ⊢
      have hdo : S.does = false → ok = false := fun hd => by
        cases hk : ok with
        | false => rfl
        | true => rw [ok_does' (hok.symm.trans hk)] at hd; cases hd
      clear hP1 hok hfp
      cases hd : S.does with
      | false =>
        rw [hd] at CS
        obtain rfl := hdo hd
        clear hdo hd
        have key : Hid (∀ u, Below w.heap.size w u → ∃ q', (.returned (.tuple #[.agg #[.int .i64 (P1.steps : Int), .int .i64 P1.fuse, .bool P1.done, .bool P1.down, .slice la ln lc, .int .i64 (n : Int)], .int .i64 5]) : Ending) = .returned (.tuple #[cv ⟨P1, l, n⟩ q', .int .i64 5]) ∧ RC A u ⟨P1, l, n⟩ q' ∧ Below w.heap.size w u) := fun u hu => ⟨⟨la, ln, lc⟩, rfl, HR.out.below hu, hu⟩
        clear HF HR HB hfl hl h2
        have bC0 : Blk ((w.alloc (.cells #[.int .i64 (S.steps : Int), .int .i64 S.fuse, .bool S.done, .bool S.down, .slice la ln lc, .int .i64 (n : Int)] 35)).alloc (.cells #[.int .i64 0, .int .i64 0, .bool false, .bool false, .slice none 0 0, .int .i64 0] 35)) w.heap.size [.int .i64 (S.steps : Int), .int .i64 S.fuse, .bool S.done, .bool S.down, .slice la ln lc, .int .i64 (n : Int)] 35 := (Blk.newAt w _ _ w.heap.size rfl _ rfl).old _
        have bR0 : Blk ((w.alloc (.cells #[.int .i64 (S.steps : Int), .int .i64 S.fuse, .bool S.done, .bool S.down, .slice la ln lc, .int .i64 (n : Int)] 35)).alloc (.cells #[.int .i64 0, .int .i64 0, .bool false, .bool false, .slice none 0 0, .int .i64 0] 35)) (w.heap.size + 1) [.int .i64 0, .int .i64 0, .bool false, .bool false, .slice none 0 0, .int .i64 0] 35 := Blk.newAt (w.alloc _) _ _ (w.heap.size + 1) (by simp) _ rfl
        have k0 : Below w.heap.size w ((w.alloc (.cells #[.int .i64 (S.steps : Int), .int .i64 S.fuse, .bool S.done, .bool S.down, .slice la ln lc, .int .i64 (n : Int)] 35)).alloc (.cells #[.int .i64 0, .int .i64 0, .bool false, .bool false, .slice none 0 0, .int .i64 0] 35)) := below2 _ _ _
        have s0 : w.heap.size + 2 ≤ (((w.alloc (.cells #[.int .i64 (S.steps : Int), .int .i64 S.fuse, .bool S.done, .bool S.down, .slice la ln lc, .int .i64 (n : Int)] 35)).alloc (.cells #[.int .i64 0, .int .i64 0, .bool false, .bool false, .slice none 0 0, .int .i64 0] 35))).heap.size := by simp
        go_enter Try.func14, Try.ntmps14
        go_wp2_with fail
        refine (CS.out _).mono ?_
        rintro e v1 ⟨rfl, hb1⟩
        have bC := bC0.below hb1 bC0.lt
        have bR := bR0.below hb1 bR0.lt
        have k1 := k0.trans (Below.mono hb1 k0.size)
        have s1 : w.heap.size + 2 ≤ v1.heap.size := Nat.le_trans s0 hb1.size
        clear bC0 bR0 k0 s0 hb1 CS
        go_wp2_with (first | ((with_reducible refine at_ld 35 ?_); (refine ld 35 (.tmp 3) 6 size35 _ Try.underlying35 rfl w.heap.size 0 [.int .i64 (S.steps : Int), .int .i64 S.fuse, .bool S.done, .bool S.down, .slice la ln lc, .int .i64 (n : Int)] rfl ((bC.old _).whole) rfl ?_)) | ((with_reducible refine at_st 35 ?_); (refine st' 35 (.tmp 6) (.tmp 68) 6 size35 (w.heap.size + 1) 0 [.int .i64 (P1.steps : Int), .int .i64 P1.fuse, .bool P1.done, .bool P1.down, .slice la ln lc, .int .i64 (n : Int)] rfl (by intro v hv; simp only [List.mem_cons, List.not_mem_nil, or_false] at hv; rcases hv with rfl | rfl | rfl | rfl | rfl | rfl <;> rfl) (((bR.old _).old _).there 0 6 (by simp)) rfl rfl ?_); intro w8 hw8; have b8 : Blk w8 (w.heap.size + 1) [.int .i64 (P1.steps : Int), .int .i64 P1.fuse, .bool P1.done, .bool P1.down, .slice la ln lc, .int .i64 (n : Int)] 35 := (by rw [hw8]; exact ((bR.old _).old _).setsW _ rfl); have k8 : Below w.heap.size w w8 := (by rw [hw8]; exact below_sets (by omega) _ ((k1.alloc k1.size _).alloc (by simp; omega) _) 0); clear hw8))
        exact bodyPost_ret (v := .tuple #[.agg #[.int .i64 (P1.steps : Int), .int .i64 P1.fuse, .bool P1.done, .bool P1.down, .slice la ln lc, .int .i64 (n : Int)], .int .i64 5]) (resCT Try.results14 _ _ (w.heap.size + 1) _ rfl (run_loadVar_row w8 (w.heap.size + 1) 35 35 _ (0, 0) _ b8 Try.underlying35 rfl size35) _ rfl) rfl (key.out _ k8)
      | true =>
        rw [hd] at CS
        clear hdo hd
        obtain ⟨k, rfl⟩ : ∃ k : Nat, at_ = (k : Int) := ⟨at_.toNat, by omega⟩
        rw [Int.toNat_natCast]
        have key : Hid (∀ u q' cd, cd = (if ok then 0 else 5 : Int) → RC A u ⟨P1, l.set k (fitK b), n + 1⟩ q' → Below w.heap.size w u → ∃ q'', (.returned (.tuple #[cv ⟨P1, l.set k (fitK b), n + 1⟩ q', .int .i64 cd]) : Ending) = .returned (.tuple #[cv (if true = true then (⟨P1, l.set k (fitK b), n + 1⟩ : CelS) else ⟨P1, l, n⟩) q'', .int .i64 (if ok = true then 0 else 5)]) ∧ RC A u (if true = true then (⟨P1, l.set k (fitK b), n + 1⟩ : CelS) else ⟨P1, l, n⟩) q'' ∧ Below w.heap.size w u) := fun u q' cd hcd hr hu => ⟨q', by rw [hcd]; rfl, hr, hu⟩
        have bC0 : Blk ((w.alloc (.cells #[.int .i64 (S.steps : Int), .int .i64 S.fuse, .bool S.done, .bool S.down, .slice la ln lc, .int .i64 (n : Int)] 35)).alloc (.cells #[.int .i64 0, .int .i64 0, .bool false, .bool false, .slice none 0 0, .int .i64 0] 35)) w.heap.size [.int .i64 (S.steps : Int), .int .i64 S.fuse, .bool S.done, .bool S.down, .slice la ln lc, .int .i64 (n : Int)] 35 := (Blk.newAt w _ _ w.heap.size rfl _ rfl).old _
        have bR0 : Blk ((w.alloc (.cells #[.int .i64 (S.steps : Int), .int .i64 S.fuse, .bool S.done, .bool S.down, .slice la ln lc, .int .i64 (n : Int)] 35)).alloc (.cells #[.int .i64 0, .int .i64 0, .bool false, .bool false, .slice none 0 0, .int .i64 0] 35)) (w.heap.size + 1) [.int .i64 0, .int .i64 0, .bool false, .bool false, .slice none 0 0, .int .i64 0] 35 := Blk.newAt (w.alloc _) _ _ (w.heap.size + 1) (by simp) _ rfl
        have k0 : Below w.heap.size w ((w.alloc (.cells #[.int .i64 (S.steps : Int), .int .i64 S.fuse, .bool S.done, .bool S.down, .slice la ln lc, .int .i64 (n : Int)] 35)).alloc (.cells #[.int .i64 0, .int .i64 0, .bool false, .bool false, .slice none 0 0, .int .i64 0] 35)) := below2 _ _ _
        have s0 : w.heap.size + 2 ≤ (((w.alloc (.cells #[.int .i64 (S.steps : Int), .int .i64 S.fuse, .bool S.done, .bool S.down, .slice la ln lc, .int .i64 (n : Int)] 35)).alloc (.cells #[.int .i64 0, .int .i64 0, .bool false, .bool false, .slice none 0 0, .int .i64 0] 35))).heap.size := by simp
        go_enter Try.func14, Try.ntmps14
        go_wp2_with fail
        refine (CS.out _).mono ?_
        rintro e v1 ⟨rfl, hb1⟩
        have bC := bC0.below hb1 bC0.lt
        have bR := bR0.below hb1 bR0.lt
        have k1 := k0.trans (Below.mono hb1 k0.size)
        have s1 : w.heap.size + 2 ≤ v1.heap.size := Nat.le_trans s0 hb1.size
        clear bC0 bR0 k0 s0 hb1 CS
        have hlC := bC.lt
        have c4 : v1.cell? ⟨w.heap.size, 4, none⟩ = some (.slice la ln lc) := bC.cell 4
        have hsl : Sl (elB fun j => A j ∧ j < w.heap.size) 1 (fun j => A j ∧ j < w.heap.size) w la ln lc l := RC.mono (C := ⟨S, l, n⟩) (q := ⟨la, ln, lc⟩) HR.out fun j hj ha => ⟨ha, hj⟩
        obtain ⟨A1, hA1⟩ : ∃ A1 : Nat → Prop, A1 = fun j => A j ∧ j < w.heap.size := ⟨_, rfl⟩
        rw [← hA1] at hsl
        have HA1 : Hid (∀ j, A1 j → A j ∧ j < w.heap.size) := fun j hj => by rw [hA1] at hj; exact hj
        clear hA1
        have HSL : Hid (∀ u, Below w.heap.size w u → Sl (elB A1) 1 A1 u la ln lc l) := fun u hu => hsl.keep hu.size (elB.keep fun j hj _ => hu.block j hj) fun j hj _ => hu.block j hj
        have k1a : Below w.heap.size w ((v1.alloc (.cells #[.int .i64 (P1.steps : Int), .int .i64 P1.fuse, .bool P1.done, .bool P1.down] 32)).alloc (.cells #[.int .i64 (P1.steps : Int), .int .i64 P1.fuse, .bool P1.done, .bool P1.down, .slice none 0 0, .int .i64 (n : Int)] 35)) := (k1.alloc k1.size _).alloc (by simp; omega) _
        have o1 : Blk ((v1.alloc (.cells #[.int .i64 (P1.steps : Int), .int .i64 P1.fuse, .bool P1.done, .bool P1.down] 32)).alloc (.cells #[.int .i64 (P1.steps : Int), .int .i64 P1.fuse, .bool P1.done, .bool P1.down, .slice none 0 0, .int .i64 (n : Int)] 35)) (v1.heap.size + 1) [.int .i64 (P1.steps : Int), .int .i64 P1.fuse, .bool P1.done, .bool P1.down, .slice none 0 0, .int .i64 (n : Int)] 35 := Blk.newAt (v1.alloc _) _ _ (v1.heap.size + 1) (by simp) _ rfl
        have c1 : Blk ((v1.alloc (.cells #[.int .i64 (P1.steps : Int), .int .i64 P1.fuse, .bool P1.done, .bool P1.down] 32)).alloc (.cells #[.int .i64 (P1.steps : Int), .int .i64 P1.fuse, .bool P1.done, .bool P1.down, .slice none 0 0, .int .i64 (n : Int)] 35)) w.heap.size [.int .i64 (S.steps : Int), .int .i64 S.fuse, .bool S.done, .bool S.down, .slice la ln lc, .int .i64 (n : Int)] 35 := (bC.old _).old _
        have r1 : Blk ((v1.alloc (.cells #[.int .i64 (P1.steps : Int), .int .i64 P1.fuse, .bool P1.done, .bool P1.down] 32)).alloc (.cells #[.int .i64 (P1.steps : Int), .int .i64 P1.fuse, .bool P1.done, .bool P1.down, .slice none 0 0, .int .i64 (n : Int)] 35)) (w.heap.size + 1) [.int .i64 0, .int .i64 0, .bool false, .bool false, .slice none 0 0, .int .i64 0] 35 := (bR.old _).old _
        clear hsl
        go_wp2_with (first | ((with_reducible refine at_ld 35 ?_); (refine ld 35 (.tmp 3) 6 size35 _ Try.underlying35 rfl w.heap.size 0 [.int .i64 (S.steps : Int), .int .i64 S.fuse, .bool S.done, .bool S.down, .slice la ln lc, .int .i64 (n : Int)] rfl ((bC.old _).whole) rfl ?_)) | (at_builtin; go_must (refine wpList_slapp (elB A1) 1 24 33 38 _ Try.underlying33 infoBy rfl (by decide) (by decide) ((v1.alloc (.cells #[.int .i64 (P1.steps : Int), .int .i64 P1.fuse, .bool P1.done, .bool P1.down] 32)).alloc (.cells #[.int .i64 (P1.steps : Int), .int .i64 P1.fuse, .bool P1.done, .bool P1.down, .slice none 0 0, .int .i64 (n : Int)] 35)) rfl (.tmp 38) (.tmp 40) rfl (v1.heap.size + 2) (.slice none 0 0) [] rfl (OwS.nil _ _ _ _ _) A1 la ln lc l rfl (HSL.out _ k1a) (by simp; omega) (by simp) (fun w' x vs hg hx => elB.grown hg (fun j cur f hj => by simp [Value.ownBlock] at hj) x vs hx) ?_); intro v' w2 ho2 hg2; obtain ⟨a2, n2, c2, rfl, hn2⟩ := ho2.shape; have hb2 : Below (v1.heap.size + 2) ((v1.alloc (.cells #[.int .i64 (P1.steps : Int), .int .i64 P1.fuse, .bool P1.done, .bool P1.down] 32)).alloc (.cells #[.int .i64 (P1.steps : Int), .int .i64 P1.fuse, .bool P1.done, .bool P1.down, .slice none 0 0, .int .i64 (n : Int)] 35)) w2 := (Below.refl _ _).grown hg2 (by simp) (fun k hk => by simp [Value.ownBlock] at hk); have o2 := o1.below hb2 (by omega); have cc2 := c1.below hb2 (by omega); have r2 := r1.below hb2 (by omega); have k2 : Below w.heap.size w w2 := k1a.trans (hb2.mono (by omega)); have s2 : v1.heap.size + 2 ≤ w2.heap.size := Nat.le_trans (by simp) hb2.size; have d4 : w2.cell? ⟨v1.heap.size + 1, 4, none⟩ = some (.slice none 0 0) := o2.cell 4; have f4 := o2.free 4; have l4 := o2.lt; clear hb2 hg2 o1 c1 r1 bC bR k1 k1a c4) | (at_make; go_must (refine wpList_mkn _ rfl _ _ rfl w2.heap.size 1024 1024 rfl rfl rfl (by omega) (by simp [World.setCell]) ?_); intro g w4 hg hgl hown hbel))
        rw [List.nil_append] at ho2 hn2
        have o3 := o2.setC 4 (.slice a2 n2 c2)
        have ow3 := OwB.grown ho2 (but_set w2 (v1.heap.size + 1) 4 (.slice a2 n2 c2)) (by omega) (o2.not5' neC5)
        have r3 : Blk (w2.setCell ⟨v1.heap.size + 1, 4, none⟩ (.slice a2 n2 c2)) (w.heap.size + 1) [.int .i64 0, .int .i64 0, .bool false, .bool false, .slice none 0 0, .int .i64 0] 35 := r2.setO (by simp; omega) _
        have q3 : Blk (w2.setCell ⟨v1.heap.size + 1, 4, none⟩ (.slice a2 n2 c2)) w.heap.size _ 35 := cc2.setO (by simp; omega) _
        have k3 : Below w.heap.size w (w2.setCell ⟨v1.heap.size + 1, 4, none⟩ (.slice a2 n2 c2)) := k2.setCell (by show w.heap.size ≤ v1.heap.size + 1; omega) _
        have s3 : w2.heap.size = (w2.setCell ⟨v1.heap.size + 1, 4, none⟩ (.slice a2 n2 c2)).heap.size := by simp [World.setCell]
        have hlO := o2.lt
        generalize w2.setCell ⟨v1.heap.size + 1, 4, none⟩ (.slice a2 n2 c2) = w3 at *
        clear o2 ho2 r2 cc2 k2 d4 f4 l4
        go_loopw [13] (fun i wr => ∃ j : Nat, j ≤ bn ∧ i = .int .i64 (j : Int) ∧ Own wr w2.heap.size (.slice (some ⟨g, 0, none⟩) 1024 1024) (b.take j ++ List.replicate (1024 - j) 0) ∧ Below w2.heap.size w3 wr) (fun i _ => bn - (intOf i).toNat)
        case atStart => exact ⟨0, Nat.zero_le _, rfl, by simpa using hown, hbel⟩
        case round =>
          clear hown hbel
          obtain ⟨j, hj, rfl, ho, hbw⟩ := hrel
          by_cases h3 : j < bn
          · have i4 : (j : Int) < (bn : Int) := by omega
            have j1 : j < 1024 := by omega
            have i5 : (j : Int) < 1024 := by omega
            obtain ⟨x, o, rfl, hx, hc⟩ := HB.out.at (by omega)
            have kw : Below w.heap.size w wr := k3.trans (hbw.mono (by omega))
            have cx : wr.cell? ⟨x, o + j, none⟩ = some (.int .u8 (bt b j)) := by rw [kw.cell (p := ⟨x, o + j, none⟩) hx]; exact hc j (by omega)
            obtain ⟨y, hy⟩ : ∃ y, y = b.getD j 0 := ⟨_, rfl⟩
            have by1 : bt b j = (y.toNat : Int) := by rw [hy]; rfl
            rw [by1] at cx
            have hlen : (b.take j ++ List.replicate (1024 - j) 0).length = 1024 := by simp; omega
            obtain ⟨u, hu⟩ := ho.cell hlen j j1
            have hfz := ho.free hlen j
            have hst := ho.set hlen j y
            rw [hy, fitK_set j1 (by omega), ← hy] at hst
            clear hy by1 hc
            go_wp2_with fail
            go_roundw
            case rel => exact ⟨j + 1, by omega, by go_num, hst, hbw.setCell (p := ⟨g, j, none⟩) hg _⟩
            case measure => simp [intOf]; omega
          · have i4 : ¬ (j : Int) < (bn : Int) := by omega
            obtain rfl : j = bn := by omega
            rw [← hbl, List.take_of_length_le (Nat.le_refl _), ← fitK_eq (by omega)] at ho
            have hx5 : B5 A wr (some ⟨g, 0, none⟩) 1024 1024 (fitK b) := ho.b5 (fun j' hj' _ => hA j' (by omega))
            have kw : Below w.heap.size w wr := k3.trans (hbw.mono (by omega))
            have oW := o3.below hbw (by omega)
            have rW := r3.below hbw (by omega)
            have qW := q3.below hbw (by omega)
            have owW : OwS (elB A1) 1 38 wr (v1.heap.size + 2) (.slice a2 n2 c2) l := OwS.keep ow3 (elB.keep fun j' hj' ha => hbw.block j' (by have := (HA1.out j' ha).2; omega)) (fun j' hj' => hbw.block j' (by have := (ow3.lt j' hj').2; omega))
            obtain ⟨g2, rfl, hg2, hg2l, ⟨u2, hu2⟩, hfz2, hset⟩ := OwB.set (OwB.mono owW fun j' _ ha => (HA1.out j' ha).1) neB5 (k := k) (by omega)
            have ow5 := hset hx5
            have hn24 : n2 = 4 := by omega
            subst hn24
            have i6 : (k : Int) < 4 := by omega
            have d4 : wr.cell? ⟨v1.heap.size + 1, 4, none⟩ = some (.slice (some ⟨g2, 0, none⟩) 4 c2) := oW.cell 4
            have e5 : wr.cell? ⟨w.heap.size, 5, none⟩ = some (.int .i64 (n : Int)) := qW.cell 5
            have e5' : wr.cell? ⟨v1.heap.size + 1, 5, none⟩ = some (.int .i64 (n : Int)) := oW.cell 5
            have fO := oW.free 5
            have lO := oW.lt
            have lQ := qW.lt
            have ne1 : ¬ g2 = w.heap.size := by omega
            have ne2 : ¬ g2 = v1.heap.size + 1 := by omega
            have ne3 : ¬ w.heap.size = g2 := by omega
            have ne4 : ¬ v1.heap.size + 1 = g2 := by omega
            have ne5 : ¬ v1.heap.size + 1 = w.heap.size := by omega
            have ne6 : ¬ w.heap.size = v1.heap.size + 1 := by omega
            have o5 : Blk (wr.setCell ⟨g2, k, none⟩ (.slice (some ⟨g, 0, none⟩) 1024 1024)) (v1.heap.size + 1) _ 35 := oW.setO (by simp; omega) _
            have r5 : Blk (wr.setCell ⟨g2, k, none⟩ (.slice (some ⟨g, 0, none⟩) 1024 1024)) (w.heap.size + 1) _ 35 := rW.setO (by simp; omega) _
            have k5 : Below w.heap.size w (wr.setCell ⟨g2, k, none⟩ (.slice (some ⟨g, 0, none⟩) 1024 1024)) := kw.setCell (by show w.heap.size ≤ g2; omega) _
            have o6 := o5.setC 5 (.int .i64 ((n : Int) + 1))
            have r6 : Blk ((wr.setCell ⟨g2, k, none⟩ (.slice (some ⟨g, 0, none⟩) 1024 1024)).setCell ⟨v1.heap.size + 1, 5, none⟩ (.int .i64 ((n : Int) + 1))) (w.heap.size + 1) _ 35 := r5.setO (by simp; omega) _
            have k6 : Below w.heap.size w ((wr.setCell ⟨g2, k, none⟩ (.slice (some ⟨g, 0, none⟩) 1024 1024)).setCell ⟨v1.heap.size + 1, 5, none⟩ (.int .i64 ((n : Int) + 1))) := k5.setCell (by show w.heap.size ≤ v1.heap.size + 1; omega) _
            have ow6 := OwB.grown ow5 (but_set (wr.setCell ⟨g2, k, none⟩ (.slice (some ⟨g, 0, none⟩) 1024 1024)) (v1.heap.size + 1) 5 (.int .i64 ((n : Int) + 1))) (by omega) (o5.not5' neC5)
            clear ow5 owW hset ho hbw o5 r5 k5 oW rW hx5 hg hgl
            replace o6 : Blk ((wr.setCell ⟨g2, k, none⟩ (.slice (some ⟨g, 0, none⟩) 1024 1024)).setCell ⟨v1.heap.size + 1, 5, none⟩ (.int .i64 ((n : Int) + 1))) (v1.heap.size + 1) (cc ⟨P1, l.set k (fitK b), n + 1⟩ ⟨some ⟨g2, 0, none⟩, 4, c2⟩) 35 := o6
            cases ok with
            | true =>
              go_wp2_with (first | ((with_reducible refine at_ld 35 ?_); (refine ld 35 (.tmp 11) 6 size35 _ Try.underlying35 rfl (v1.heap.size + 1) 0 (cc ⟨P1, l.set k (fitK b), n + 1⟩ ⟨some ⟨g2, 0, none⟩, 4, c2⟩) rfl o6.whole rfl ?_)) | ((with_reducible refine at_st 35 ?_); (refine st' 35 (.tmp 6) (.tmp 69) 6 size35 (w.heap.size + 1) 0 (cc ⟨P1, l.set k (fitK b), n + 1⟩ ⟨some ⟨g2, 0, none⟩, 4, c2⟩) rfl (cc_one _ _) (r6.there 0 6 (by simp)) rfl rfl ?_); intro w8 hw8; have b8 : Blk w8 (w.heap.size + 1) (cc ⟨P1, l.set k (fitK b), n + 1⟩ ⟨some ⟨g2, 0, none⟩, 4, c2⟩) 35 := (by rw [hw8]; exact r6.setsW _ rfl); have k8 : Below w.heap.size w w8 := (by rw [hw8]; exact below_sets (by omega) _ k6 0); have ow8 := OwB.grown (w' := w8) ow6 (r := w.heap.size + 1) (by rw [hw8]; exact but_cells' _ _ _ _) (by omega) (r6.not5' neC5); clear hw8))
              have hrc : RC A w8 ⟨P1, l.set k (fitK b), n + 1⟩ ⟨some ⟨g2, 0, none⟩, 4, c2⟩ := ow8.sl3 (fun j' hj' _ => hA j' (by omega))
              exact bodyPost_ret (v := .tuple #[cv ⟨P1, l.set k (fitK b), n + 1⟩ ⟨some ⟨g2, 0, none⟩, 4, c2⟩, .int .i64 0]) (resCT Try.results14 _ _ (w.heap.size + 1) _ rfl (run_loadVar_row w8 (w.heap.size + 1) 35 35 _ (0, 0) _ b8 Try.underlying35 rfl size35) _ rfl) rfl (key.out w8 ⟨some ⟨g2, 0, none⟩, 4, c2⟩ 0 rfl hrc k8)
            | false =>
              go_wp2_with (first | ((with_reducible refine at_ld 35 ?_); (refine ld 35 (.tmp 11) 6 size35 _ Try.underlying35 rfl (v1.heap.size + 1) 0 (cc ⟨P1, l.set k (fitK b), n + 1⟩ ⟨some ⟨g2, 0, none⟩, 4, c2⟩) rfl o6.whole rfl ?_)) | ((with_reducible refine at_st 35 ?_); (refine st' 35 (.tmp 6) (.tmp 68) 6 size35 (w.heap.size + 1) 0 (cc ⟨P1, l.set k (fitK b), n + 1⟩ ⟨some ⟨g2, 0, none⟩, 4, c2⟩) rfl (cc_one _ _) (r6.there 0 6 (by simp)) rfl rfl ?_); intro w8 hw8; have b8 : Blk w8 (w.heap.size + 1) (cc ⟨P1, l.set k (fitK b), n + 1⟩ ⟨some ⟨g2, 0, none⟩, 4, c2⟩) 35 := (by rw [hw8]; exact r6.setsW _ rfl); have k8 : Below w.heap.size w w8 := (by rw [hw8]; exact below_sets (by omega) _ k6 0); have ow8 := OwB.grown (w' := w8) ow6 (r := w.heap.size + 1) (by rw [hw8]; exact but_cells' _ _ _ _) (by omega) (r6.not5' neC5); clear hw8))
              have hrc : RC A w8 ⟨P1, l.set k (fitK b), n + 1⟩ ⟨some ⟨g2, 0, none⟩, 4, c2⟩ := ow8.sl3 (fun j' hj' _ => hA j' (by omega))
              exact bodyPost_ret (v := .tuple #[cv ⟨P1, l.set k (fitK b), n + 1⟩ ⟨some ⟨g2, 0, none⟩, 4, c2⟩, .int .i64 5]) (resCT Try.results14 _ _ (w.heap.size + 1) _ rfl (run_loadVar_row w8 (w.heap.size + 1) 35 35 _ (0, 0) _ b8 Try.underlying35 rfl size35) _ rfl) rfl (key.out w8 ⟨some ⟨g2, 0, none⟩, 4, c2⟩ 5 rfl hrc k8)

end Go.Proofs.Yteilnckkmmgpcaa
