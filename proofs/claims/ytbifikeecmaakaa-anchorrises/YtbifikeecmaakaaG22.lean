/-
  3 texts in one. No statement of the seat is proved here.
-/
import Derived.Test.YtbifikeecmaakaaG21
import Derived.Deep.CutBlock
/-
  The contract of layer 10's reference's Write. Conditions: fewer than 2^40 steps.
-/
namespace Go.Proofs.Ytbifikeecmaakaa
open Go.RowKit

/-- A struct and a value handed back. -/
theorem resCT {fn : Func} {p t : Tmp} {ty : TypeId} (h : fn.results = #[.cell p ty, .tmp t]) (tmps : Array Value) (w : World) (g : Nat) (cs : Array Value) (hp : tmps.getD p undef = .pointer (some ⟨g, 0, none⟩)) (hl : (loadVar ty ⟨g, 0, none⟩).run Try.prog w = .ok (.agg cs) w) (x : Value) (hx : tmps.getD t undef = x) : (results fn tmps).run Try.prog w = .ok (.tuple #[.agg cs, x]) w := by
  have hp' : tmps[p]?.getD undef = .pointer (some ⟨g, 0, none⟩) := by simpa using hp
  have hx' : tmps[t]?.getD undef = x := by simpa using hx
  simp [results, h, hp', hx', asAddr, hl]
set_option maxRecDepth 100000 in
set_option maxHeartbeats 4000000 in
theorem rCWrite (w : World) {A : Nat → Prop} {C : CelS} {q : Tri} (h : RC A w C q) (hA : ∀ j, w.heap.size ≤ j → A j) {m : Nat} (hf : C.fit m) (hm : m ≤ 1000000) (at_ : Int) (hat : i64 at_) {ba : Option Addr} {bn bc : Nat} {b : List UInt8} (hb : Bs w ba bn bc b) :
    Calls Try.prog 58 #[cv C q, .int .i64 at_, .slice ba bn bc] w fun e w' => ∃ q', e = .returned (.tuple #[cv (C.write at_ b).1 q', .int .i64 (C.write at_ b).2]) ∧ RC A w' (C.write at_ b).1 q' ∧ Below w.heap.size w w' := by
  have hfp := hf.p
  have hfw := hf.writes
  have hfl := hf.l
  have HF : Hid (C.fit m) := hf
  obtain ⟨S, l, n⟩ := C
  obtain ⟨la, ln, lc⟩ := q
  have hbl := hb.len
  have hbm := hb.max
  have hl : l.length = ln := Sl.len h
  unfold CelS.write
  dsimp only at hfp hfw hfl ⊢
  have HR : Hid (RC A w ⟨S, l, n⟩ ⟨la, ln, lc⟩) := h
  have HB : Hid (Bs w ba bn bc b) := hb
  clear h hb hf
  unfold cv cc
  dsimp only
  by_cases h1 : at_ < 0 ∨ 3 < at_
  · rw [if_pos h1]
    have key : Hid (∀ u, Below w.heap.size w u → ∃ q', (.returned (.tuple #[.agg #[.int .i64 (S.steps : Int), .int .i64 S.fuse, .bool S.done, .bool S.down, .slice la ln lc, .int .i64 (n : Int)], .int .i64 2]) : Ending) = .returned (.tuple #[cv ⟨S, l, n⟩ q', .int .i64 2]) ∧ RC A u ⟨S, l, n⟩ q' ∧ Below w.heap.size w u) := fun u hu => ⟨⟨la, ln, lc⟩, rfl, HR.out.below hu, hu⟩
    clear HF HR HB hfp hfw hfl hl
    by_cases i1 : at_ < 0
    · go_enter Try.func58, Try.ntmps58
      go_wp2_with fail
      exact bodyPost_ret (v := .tuple #[.agg #[.int .i64 (S.steps : Int), .int .i64 S.fuse, .bool S.done, .bool S.down, .slice la ln lc, .int .i64 (n : Int)], .int .i64 2]) (by simp [results, Try.results58, go_sem]) rfl (key.out _ (below2 _ _ _))
    · have i2 : 3 < at_ := by omega
      go_enter Try.func58, Try.ntmps58
      go_wp2_with fail
      exact bodyPost_ret (v := .tuple #[.agg #[.int .i64 (S.steps : Int), .int .i64 S.fuse, .bool S.done, .bool S.down, .slice la ln lc, .int .i64 (n : Int)], .int .i64 2]) (by simp [results, Try.results58, go_sem]) rfl (key.out _ (below2 _ _ _))
  · rw [if_neg h1]
    have i1 : ¬ at_ < 0 := by omega
    have i2 : ¬ 3 < at_ := by omega
    by_cases h2 : 1024 < b.length
    · rw [if_pos h2]
      have i3 : (1024 : Int) < (bn : Int) := by omega
      have key : Hid (∀ u, Below w.heap.size w u → ∃ q', (.returned (.tuple #[.agg #[.int .i64 (S.steps : Int), .int .i64 S.fuse, .bool S.done, .bool S.down, .slice la ln lc, .int .i64 (n : Int)], .int .i64 17]) : Ending) = .returned (.tuple #[cv ⟨S, l, n⟩ q', .int .i64 17]) ∧ RC A u ⟨S, l, n⟩ q' ∧ Below w.heap.size w u) := fun u hu => ⟨⟨la, ln, lc⟩, rfl, HR.out.below hu, hu⟩
      clear HF HR HB hfp hfw hfl hl h2
      go_enter Try.func58, Try.ntmps58
      go_wp2_with fail
      exact bodyPost_ret (v := .tuple #[.agg #[.int .i64 (S.steps : Int), .int .i64 S.fuse, .bool S.done, .bool S.down, .slice la ln lc, .int .i64 (n : Int)], .int .i64 17]) (by simp [results, Try.results58, go_sem]) rfl (key.out _ (below2 _ _ _))
    · rw [if_neg h2]
      have i3 : ¬ (1024 : Int) < (bn : Int) := by omega
      have CS : Hid (∀ u, Calls Try.prog 70 #[.agg #[.int .i64 (S.steps : Int), .int .i64 S.fuse, .bool S.done, .bool S.down]] u fun e w' => e = .returned (.tuple #[.agg #[.int .i64 (S.next.steps : Int), .int .i64 S.next.fuse, .bool S.next.done, .bool S.next.down], .bool S.ok, .bool S.does]) ∧ Below u.heap.size u w') := fun u => rPStep u S hfp (by omega)
      unfold CelS.wrote
      dsimp only
      obtain ⟨P1, hP1⟩ : ∃ P1, P1 = S.next := ⟨_, rfl⟩
      rw [← hP1] at CS ⊢
      obtain ⟨ok, hok⟩ : ∃ ok, ok = S.ok := ⟨_, rfl⟩
      rw [← hok] at CS ⊢
      have hdo : S.does = false → ok = false := fun hd => by
        cases hk : ok with
        | false => rfl
        | true => rw [ok_does' (hok.symm.trans hk)] at hd; cases hd
      clear hP1 hok hfp
      cases hd : S.does with
      | false =>
        rw [hd] at CS
        obtain rfl := hdo hd
        clear hdo hd
        have key : Hid (∀ u, Below w.heap.size w u → ∃ q', (.returned (.tuple #[.agg #[.int .i64 (P1.steps : Int), .int .i64 P1.fuse, .bool P1.done, .bool P1.down, .slice la ln lc, .int .i64 (n : Int)], .int .i64 5]) : Ending) = .returned (.tuple #[cv ⟨P1, l, n⟩ q', .int .i64 5]) ∧ RC A u ⟨P1, l, n⟩ q' ∧ Below w.heap.size w u) := fun u hu => ⟨⟨la, ln, lc⟩, rfl, HR.out.below hu, hu⟩
        clear HF HR HB hfl hl h2
        have bC0 : Blk ((w.alloc (.cells #[.int .i64 (S.steps : Int), .int .i64 S.fuse, .bool S.done, .bool S.down, .slice la ln lc, .int .i64 (n : Int)] 51)).alloc (.cells #[.int .i64 0, .int .i64 0, .bool false, .bool false, .slice none 0 0, .int .i64 0] 51)) w.heap.size [.int .i64 (S.steps : Int), .int .i64 S.fuse, .bool S.done, .bool S.down, .slice la ln lc, .int .i64 (n : Int)] 51 := (Blk.newAt w _ _ w.heap.size rfl _ rfl).old _
        have bR0 : Blk ((w.alloc (.cells #[.int .i64 (S.steps : Int), .int .i64 S.fuse, .bool S.done, .bool S.down, .slice la ln lc, .int .i64 (n : Int)] 51)).alloc (.cells #[.int .i64 0, .int .i64 0, .bool false, .bool false, .slice none 0 0, .int .i64 0] 51)) (w.heap.size + 1) [.int .i64 0, .int .i64 0, .bool false, .bool false, .slice none 0 0, .int .i64 0] 51 := Blk.newAt (w.alloc _) _ _ (w.heap.size + 1) (by simp) _ rfl
        have k0 : Below w.heap.size w ((w.alloc (.cells #[.int .i64 (S.steps : Int), .int .i64 S.fuse, .bool S.done, .bool S.down, .slice la ln lc, .int .i64 (n : Int)] 51)).alloc (.cells #[.int .i64 0, .int .i64 0, .bool false, .bool false, .slice none 0 0, .int .i64 0] 51)) := below2 _ _ _
        have s0 : w.heap.size + 2 ≤ (((w.alloc (.cells #[.int .i64 (S.steps : Int), .int .i64 S.fuse, .bool S.done, .bool S.down, .slice la ln lc, .int .i64 (n : Int)] 51)).alloc (.cells #[.int .i64 0, .int .i64 0, .bool false, .bool false, .slice none 0 0, .int .i64 0] 51))).heap.size := by simp
        go_enter Try.func58, Try.ntmps58
        go_wp2_with fail
        refine (CS.out _).mono ?_
        rintro e v1 ⟨rfl, hb1⟩
        have bC := bC0.below hb1 bC0.lt
        have bR := bR0.below hb1 bR0.lt
        have k1 := k0.trans (Below.mono hb1 k0.size)
        have s1 : w.heap.size + 2 ≤ v1.heap.size := Nat.le_trans s0 hb1.size
        clear bC0 bR0 k0 s0 hb1 CS
        go_wp2_with (first | ((with_reducible refine at_ld 51 ?_); (refine ld 51 (.tmp 3) 6 size35 _ Try.underlying51 rfl w.heap.size 0 [.int .i64 (S.steps : Int), .int .i64 S.fuse, .bool S.done, .bool S.down, .slice la ln lc, .int .i64 (n : Int)] rfl ((bC.old _).whole) rfl ?_)) | ((with_reducible refine at_st 51 ?_); (refine st' 51 (.tmp 6) (.tmp 68) 6 size35 (w.heap.size + 1) 0 [.int .i64 (P1.steps : Int), .int .i64 P1.fuse, .bool P1.done, .bool P1.down, .slice la ln lc, .int .i64 (n : Int)] rfl (by intro v hv; simp only [List.mem_cons, List.not_mem_nil, or_false] at hv; rcases hv with rfl | rfl | rfl | rfl | rfl | rfl <;> rfl) (((bR.old _).old _).there 0 6 (by simp)) rfl rfl ?_); intro w8 hw8; have b8 : Blk w8 (w.heap.size + 1) [.int .i64 (P1.steps : Int), .int .i64 P1.fuse, .bool P1.done, .bool P1.down, .slice la ln lc, .int .i64 (n : Int)] 51 := (by rw [hw8]; exact ((bR.old _).old _).setsW _ rfl); have k8 : Below w.heap.size w w8 := (by rw [hw8]; exact below_sets (by omega) _ ((k1.alloc k1.size _).alloc (by simp; omega) _) 0); clear hw8))
        exact bodyPost_ret (v := .tuple #[.agg #[.int .i64 (P1.steps : Int), .int .i64 P1.fuse, .bool P1.done, .bool P1.down, .slice la ln lc, .int .i64 (n : Int)], .int .i64 5]) (resCT Try.results58 _ _ (w.heap.size + 1) _ rfl (run_loadVar_row w8 (w.heap.size + 1) 51 51 _ (0, 0) _ b8 Try.underlying51 rfl size35) _ rfl) rfl (key.out _ k8)
      | true =>
        rw [hd] at CS
        clear hdo hd
        obtain ⟨k, rfl⟩ : ∃ k : Nat, at_ = (k : Int) := ⟨at_.toNat, by omega⟩
        rw [Int.toNat_natCast]
        have key : Hid (∀ u q' cd, cd = (if ok then 0 else 5 : Int) → RC A u ⟨P1, l.set k (fitK b), n + 1⟩ q' → Below w.heap.size w u → ∃ q'', (.returned (.tuple #[cv ⟨P1, l.set k (fitK b), n + 1⟩ q', .int .i64 cd]) : Ending) = .returned (.tuple #[cv (if true = true then (⟨P1, l.set k (fitK b), n + 1⟩ : CelS) else ⟨P1, l, n⟩) q'', .int .i64 (if ok = true then 0 else 5)]) ∧ RC A u (if true = true then (⟨P1, l.set k (fitK b), n + 1⟩ : CelS) else ⟨P1, l, n⟩) q'' ∧ Below w.heap.size w u) := fun u q' cd hcd hr hu => ⟨q', by rw [hcd]; rfl, hr, hu⟩
        have bC0 : Blk ((w.alloc (.cells #[.int .i64 (S.steps : Int), .int .i64 S.fuse, .bool S.done, .bool S.down, .slice la ln lc, .int .i64 (n : Int)] 51)).alloc (.cells #[.int .i64 0, .int .i64 0, .bool false, .bool false, .slice none 0 0, .int .i64 0] 51)) w.heap.size [.int .i64 (S.steps : Int), .int .i64 S.fuse, .bool S.done, .bool S.down, .slice la ln lc, .int .i64 (n : Int)] 51 := (Blk.newAt w _ _ w.heap.size rfl _ rfl).old _
        have bR0 : Blk ((w.alloc (.cells #[.int .i64 (S.steps : Int), .int .i64 S.fuse, .bool S.done, .bool S.down, .slice la ln lc, .int .i64 (n : Int)] 51)).alloc (.cells #[.int .i64 0, .int .i64 0, .bool false, .bool false, .slice none 0 0, .int .i64 0] 51)) (w.heap.size + 1) [.int .i64 0, .int .i64 0, .bool false, .bool false, .slice none 0 0, .int .i64 0] 51 := Blk.newAt (w.alloc _) _ _ (w.heap.size + 1) (by simp) _ rfl
        have k0 : Below w.heap.size w ((w.alloc (.cells #[.int .i64 (S.steps : Int), .int .i64 S.fuse, .bool S.done, .bool S.down, .slice la ln lc, .int .i64 (n : Int)] 51)).alloc (.cells #[.int .i64 0, .int .i64 0, .bool false, .bool false, .slice none 0 0, .int .i64 0] 51)) := below2 _ _ _
        have s0 : w.heap.size + 2 ≤ (((w.alloc (.cells #[.int .i64 (S.steps : Int), .int .i64 S.fuse, .bool S.done, .bool S.down, .slice la ln lc, .int .i64 (n : Int)] 51)).alloc (.cells #[.int .i64 0, .int .i64 0, .bool false, .bool false, .slice none 0 0, .int .i64 0] 51))).heap.size := by simp
        go_enter Try.func58, Try.ntmps58
        go_wp2_with fail
        refine (CS.out _).mono ?_
        rintro e v1 ⟨rfl, hb1⟩
        have bC := bC0.below hb1 bC0.lt
        have bR := bR0.below hb1 bR0.lt
        have k1 := k0.trans (Below.mono hb1 k0.size)
        have s1 : w.heap.size + 2 ≤ v1.heap.size := Nat.le_trans s0 hb1.size
        clear bC0 bR0 k0 s0 hb1 CS
        have hlC := bC.lt
        have c4 : v1.cell? ⟨w.heap.size, 4, none⟩ = some (.slice la ln lc) := bC.cell 4
        have hsl : Sl (elB fun j => A j ∧ j < w.heap.size) 1 (fun j => A j ∧ j < w.heap.size) w la ln lc l := RC.mono (C := ⟨S, l, n⟩) (q := ⟨la, ln, lc⟩) HR.out fun j hj ha => ⟨ha, hj⟩
        obtain ⟨A1, hA1⟩ : ∃ A1 : Nat → Prop, A1 = fun j => A j ∧ j < w.heap.size := ⟨_, rfl⟩
        rw [← hA1] at hsl
        have HA1 : Hid (∀ j, A1 j → A j ∧ j < w.heap.size) := fun j hj => by rw [hA1] at hj; exact hj
        clear hA1
        have HSL : Hid (∀ u, Below w.heap.size w u → Sl (elB A1) 1 A1 u la ln lc l) := fun u hu => hsl.keep hu.size (elB.keep fun j hj _ => hu.block j hj) fun j hj _ => hu.block j hj
        have k1a : Below w.heap.size w ((v1.alloc (.cells #[.int .i64 (P1.steps : Int), .int .i64 P1.fuse, .bool P1.done, .bool P1.down] 48)).alloc (.cells #[.int .i64 (P1.steps : Int), .int .i64 P1.fuse, .bool P1.done, .bool P1.down, .slice none 0 0, .int .i64 (n : Int)] 51)) := (k1.alloc k1.size _).alloc (by simp; omega) _
        have o1 : Blk ((v1.alloc (.cells #[.int .i64 (P1.steps : Int), .int .i64 P1.fuse, .bool P1.done, .bool P1.down] 48)).alloc (.cells #[.int .i64 (P1.steps : Int), .int .i64 P1.fuse, .bool P1.done, .bool P1.down, .slice none 0 0, .int .i64 (n : Int)] 51)) (v1.heap.size + 1) [.int .i64 (P1.steps : Int), .int .i64 P1.fuse, .bool P1.done, .bool P1.down, .slice none 0 0, .int .i64 (n : Int)] 51 := Blk.newAt (v1.alloc _) _ _ (v1.heap.size + 1) (by simp) _ rfl
        have c1 : Blk ((v1.alloc (.cells #[.int .i64 (P1.steps : Int), .int .i64 P1.fuse, .bool P1.done, .bool P1.down] 48)).alloc (.cells #[.int .i64 (P1.steps : Int), .int .i64 P1.fuse, .bool P1.done, .bool P1.down, .slice none 0 0, .int .i64 (n : Int)] 51)) w.heap.size [.int .i64 (S.steps : Int), .int .i64 S.fuse, .bool S.done, .bool S.down, .slice la ln lc, .int .i64 (n : Int)] 51 := (bC.old _).old _
        have r1 : Blk ((v1.alloc (.cells #[.int .i64 (P1.steps : Int), .int .i64 P1.fuse, .bool P1.done, .bool P1.down] 48)).alloc (.cells #[.int .i64 (P1.steps : Int), .int .i64 P1.fuse, .bool P1.done, .bool P1.down, .slice none 0 0, .int .i64 (n : Int)] 51)) (w.heap.size + 1) [.int .i64 0, .int .i64 0, .bool false, .bool false, .slice none 0 0, .int .i64 0] 51 := (bR.old _).old _
        clear hsl
        go_wp2_with (first | ((with_reducible refine at_ld 51 ?_); (refine ld 51 (.tmp 3) 6 size35 _ Try.underlying51 rfl w.heap.size 0 [.int .i64 (S.steps : Int), .int .i64 S.fuse, .bool S.done, .bool S.down, .slice la ln lc, .int .i64 (n : Int)] rfl ((bC.old _).whole) rfl ?_)) | (at_builtin; go_must (refine wpList_slapp (elB A1) 1 24 49 22 _ Try.underlying49 infoBy rfl (by decide) (by decide) ((v1.alloc (.cells #[.int .i64 (P1.steps : Int), .int .i64 P1.fuse, .bool P1.done, .bool P1.down] 48)).alloc (.cells #[.int .i64 (P1.steps : Int), .int .i64 P1.fuse, .bool P1.done, .bool P1.down, .slice none 0 0, .int .i64 (n : Int)] 51)) rfl (.tmp 38) (.tmp 40) rfl (v1.heap.size + 2) (.slice none 0 0) [] rfl (OwS.nil _ _ _ _ _) A1 la ln lc l rfl (HSL.out _ k1a) (by simp; omega) (by simp) (fun w' x vs hg hx => elB.grown hg (fun j cur f hj => by simp [Value.ownBlock] at hj) x vs hx) ?_); intro v' w2 ho2 hg2; obtain ⟨a2, n2, c2, rfl, hn2⟩ := ho2.shape; have hb2 : Below (v1.heap.size + 2) ((v1.alloc (.cells #[.int .i64 (P1.steps : Int), .int .i64 P1.fuse, .bool P1.done, .bool P1.down] 48)).alloc (.cells #[.int .i64 (P1.steps : Int), .int .i64 P1.fuse, .bool P1.done, .bool P1.down, .slice none 0 0, .int .i64 (n : Int)] 51)) w2 := (Below.refl _ _).grown hg2 (by simp) (fun k hk => by simp [Value.ownBlock] at hk); have o2 := o1.below hb2 (by omega); have cc2 := c1.below hb2 (by omega); have r2 := r1.below hb2 (by omega); have k2 : Below w.heap.size w w2 := k1a.trans (hb2.mono (by omega)); have s2 : v1.heap.size + 2 ≤ w2.heap.size := Nat.le_trans (by simp) hb2.size; have d4 : w2.cell? ⟨v1.heap.size + 1, 4, none⟩ = some (.slice none 0 0) := o2.cell 4; have f4 := o2.free 4; have l4 := o2.lt; clear hb2 hg2 o1 c1 r1 bC bR k1 k1a c4) | (at_make; go_must (refine wpList_mkn _ rfl _ _ rfl w2.heap.size 1024 1024 rfl rfl rfl (by omega) (by simp [World.setCell]) ?_); intro g w4 hg hgl hown hbel))
        rw [List.nil_append] at ho2 hn2
        have o3 := o2.setC 4 (.slice a2 n2 c2)
        have ow3 := OwB.grown ho2 (but_set w2 (v1.heap.size + 1) 4 (.slice a2 n2 c2)) (by omega) (o2.not5' neC5)
        have r3 : Blk (w2.setCell ⟨v1.heap.size + 1, 4, none⟩ (.slice a2 n2 c2)) (w.heap.size + 1) [.int .i64 0, .int .i64 0, .bool false, .bool false, .slice none 0 0, .int .i64 0] 51 := r2.setO (by simp; omega) _
        have q3 : Blk (w2.setCell ⟨v1.heap.size + 1, 4, none⟩ (.slice a2 n2 c2)) w.heap.size _ 51 := cc2.setO (by simp; omega) _
        have k3 : Below w.heap.size w (w2.setCell ⟨v1.heap.size + 1, 4, none⟩ (.slice a2 n2 c2)) := k2.setCell (by show w.heap.size ≤ v1.heap.size + 1; omega) _
        have s3 : w2.heap.size = (w2.setCell ⟨v1.heap.size + 1, 4, none⟩ (.slice a2 n2 c2)).heap.size := by simp [World.setCell]
        have hlO := o2.lt
        generalize w2.setCell ⟨v1.heap.size + 1, 4, none⟩ (.slice a2 n2 c2) = w3 at *
        clear o2 ho2 r2 cc2 k2 d4 f4 l4
        go_loopw [13] (fun i wr => ∃ j : Nat, j ≤ bn ∧ i = .int .i64 (j : Int) ∧ Own wr w2.heap.size (.slice (some ⟨g, 0, none⟩) 1024 1024) (b.take j ++ List.replicate (1024 - j) 0) ∧ Below w2.heap.size w3 wr) (fun i _ => bn - (intOf i).toNat)
        case atStart => exact ⟨0, Nat.zero_le _, rfl, by simpa using hown, hbel⟩
        case round =>
          clear hown hbel
          obtain ⟨j, hj, rfl, ho, hbw⟩ := hrel
          by_cases h3 : j < bn
          · have i4 : (j : Int) < (bn : Int) := by omega
            have j1 : j < 1024 := by omega
            have i5 : (j : Int) < 1024 := by omega
            obtain ⟨x, o, rfl, hx, hc⟩ := HB.out.at (by omega)
            have kw : Below w.heap.size w wr := k3.trans (hbw.mono (by omega))
            have cx : wr.cell? ⟨x, o + j, none⟩ = some (.int .u8 (bt b j)) := by rw [kw.cell (p := ⟨x, o + j, none⟩) hx]; exact hc j (by omega)
            obtain ⟨y, hy⟩ : ∃ y, y = b.getD j 0 := ⟨_, rfl⟩
            have by1 : bt b j = (y.toNat : Int) := by rw [hy]; rfl
            rw [by1] at cx
            have hlen : (b.take j ++ List.replicate (1024 - j) 0).length = 1024 := by simp; omega
            obtain ⟨u, hu⟩ := ho.cell hlen j j1
            have hfz := ho.free hlen j
            have hst := ho.set hlen j y
            rw [hy, fitK_set j1 (by omega), ← hy] at hst
            clear hy by1 hc
            go_wp2_with fail
            go_roundw
            case rel => exact ⟨j + 1, by omega, by go_num, hst, hbw.setCell (p := ⟨g, j, none⟩) hg _⟩
            case measure => simp [intOf]; omega
          · have i4 : ¬ (j : Int) < (bn : Int) := by omega
            obtain rfl : j = bn := by omega
            rw [← hbl, List.take_of_length_le (Nat.le_refl _), ← fitK_eq (by omega)] at ho
            have hx5 : B5 A wr (some ⟨g, 0, none⟩) 1024 1024 (fitK b) := ho.b5 (fun j' hj' _ => hA j' (by omega))
            have kw : Below w.heap.size w wr := k3.trans (hbw.mono (by omega))
            have oW := o3.below hbw (by omega)
            have rW := r3.below hbw (by omega)
            have qW := q3.below hbw (by omega)
            have owW : OwS (elB A1) 1 22 wr (v1.heap.size + 2) (.slice a2 n2 c2) l := OwS.keep ow3 (elB.keep fun j' hj' ha => hbw.block j' (by have := (HA1.out j' ha).2; omega)) (fun j' hj' => hbw.block j' (by have := (ow3.lt j' hj').2; omega))
            obtain ⟨g2, rfl, hg2, hg2l, ⟨u2, hu2⟩, hfz2, hset⟩ := OwB.set (OwB.mono owW fun j' _ ha => (HA1.out j' ha).1) neB5 (k := k) (by omega)
            have ow5 := hset hx5
            have hn24 : n2 = 4 := by omega
            subst hn24
            have i6 : (k : Int) < 4 := by omega
            have d4 : wr.cell? ⟨v1.heap.size + 1, 4, none⟩ = some (.slice (some ⟨g2, 0, none⟩) 4 c2) := oW.cell 4
            have e5 : wr.cell? ⟨w.heap.size, 5, none⟩ = some (.int .i64 (n : Int)) := qW.cell 5
            have e5' : wr.cell? ⟨v1.heap.size + 1, 5, none⟩ = some (.int .i64 (n : Int)) := oW.cell 5
            have fO := oW.free 5
            have lO := oW.lt
            have lQ := qW.lt
            have ne1 : ¬ g2 = w.heap.size := by omega
            have ne2 : ¬ g2 = v1.heap.size + 1 := by omega
            have ne3 : ¬ w.heap.size = g2 := by omega
            have ne4 : ¬ v1.heap.size + 1 = g2 := by omega
            have ne5 : ¬ v1.heap.size + 1 = w.heap.size := by omega
            have ne6 : ¬ w.heap.size = v1.heap.size + 1 := by omega
            have o5 : Blk (wr.setCell ⟨g2, k, none⟩ (.slice (some ⟨g, 0, none⟩) 1024 1024)) (v1.heap.size + 1) _ 51 := oW.setO (by simp; omega) _
            have r5 : Blk (wr.setCell ⟨g2, k, none⟩ (.slice (some ⟨g, 0, none⟩) 1024 1024)) (w.heap.size + 1) _ 51 := rW.setO (by simp; omega) _
            have k5 : Below w.heap.size w (wr.setCell ⟨g2, k, none⟩ (.slice (some ⟨g, 0, none⟩) 1024 1024)) := kw.setCell (by show w.heap.size ≤ g2; omega) _
            have o6 := o5.setC 5 (.int .i64 ((n : Int) + 1))
            have r6 : Blk ((wr.setCell ⟨g2, k, none⟩ (.slice (some ⟨g, 0, none⟩) 1024 1024)).setCell ⟨v1.heap.size + 1, 5, none⟩ (.int .i64 ((n : Int) + 1))) (w.heap.size + 1) _ 51 := r5.setO (by simp; omega) _
            have k6 : Below w.heap.size w ((wr.setCell ⟨g2, k, none⟩ (.slice (some ⟨g, 0, none⟩) 1024 1024)).setCell ⟨v1.heap.size + 1, 5, none⟩ (.int .i64 ((n : Int) + 1))) := k5.setCell (by show w.heap.size ≤ v1.heap.size + 1; omega) _
            have ow6 := OwB.grown ow5 (but_set (wr.setCell ⟨g2, k, none⟩ (.slice (some ⟨g, 0, none⟩) 1024 1024)) (v1.heap.size + 1) 5 (.int .i64 ((n : Int) + 1))) (by omega) (o5.not5' neC5)
            clear ow5 owW hset ho hbw o5 r5 k5 oW rW hx5 hg hgl
            replace o6 : Blk ((wr.setCell ⟨g2, k, none⟩ (.slice (some ⟨g, 0, none⟩) 1024 1024)).setCell ⟨v1.heap.size + 1, 5, none⟩ (.int .i64 ((n : Int) + 1))) (v1.heap.size + 1) (cc ⟨P1, l.set k (fitK b), n + 1⟩ ⟨some ⟨g2, 0, none⟩, 4, c2⟩) 51 := o6
            cases ok with
            | true =>
              go_wp2_with (first | ((with_reducible refine at_ld 51 ?_); (refine ld 51 (.tmp 11) 6 size35 _ Try.underlying51 rfl (v1.heap.size + 1) 0 (cc ⟨P1, l.set k (fitK b), n + 1⟩ ⟨some ⟨g2, 0, none⟩, 4, c2⟩) rfl o6.whole rfl ?_)) | ((with_reducible refine at_st 51 ?_); (refine st' 51 (.tmp 6) (.tmp 69) 6 size35 (w.heap.size + 1) 0 (cc ⟨P1, l.set k (fitK b), n + 1⟩ ⟨some ⟨g2, 0, none⟩, 4, c2⟩) rfl (cc_one _ _) (r6.there 0 6 (by simp)) rfl rfl ?_); intro w8 hw8; have b8 : Blk w8 (w.heap.size + 1) (cc ⟨P1, l.set k (fitK b), n + 1⟩ ⟨some ⟨g2, 0, none⟩, 4, c2⟩) 51 := (by rw [hw8]; exact r6.setsW _ rfl); have k8 : Below w.heap.size w w8 := (by rw [hw8]; exact below_sets (by omega) _ k6 0); have ow8 := OwB.grown (w' := w8) ow6 (r := w.heap.size + 1) (by rw [hw8]; exact but_cells' _ _ _ _) (by omega) (r6.not5' neC5); clear hw8))
              have hrc : RC A w8 ⟨P1, l.set k (fitK b), n + 1⟩ ⟨some ⟨g2, 0, none⟩, 4, c2⟩ := ow8.sl3 (fun j' hj' _ => hA j' (by omega))
              exact bodyPost_ret (v := .tuple #[cv ⟨P1, l.set k (fitK b), n + 1⟩ ⟨some ⟨g2, 0, none⟩, 4, c2⟩, .int .i64 0]) (resCT Try.results58 _ _ (w.heap.size + 1) _ rfl (run_loadVar_row w8 (w.heap.size + 1) 51 51 _ (0, 0) _ b8 Try.underlying51 rfl size35) _ rfl) rfl (key.out w8 ⟨some ⟨g2, 0, none⟩, 4, c2⟩ 0 rfl hrc k8)
            | false =>
              go_wp2_with (first | ((with_reducible refine at_ld 51 ?_); (refine ld 51 (.tmp 11) 6 size35 _ Try.underlying51 rfl (v1.heap.size + 1) 0 (cc ⟨P1, l.set k (fitK b), n + 1⟩ ⟨some ⟨g2, 0, none⟩, 4, c2⟩) rfl o6.whole rfl ?_)) | ((with_reducible refine at_st 51 ?_); (refine st' 51 (.tmp 6) (.tmp 68) 6 size35 (w.heap.size + 1) 0 (cc ⟨P1, l.set k (fitK b), n + 1⟩ ⟨some ⟨g2, 0, none⟩, 4, c2⟩) rfl (cc_one _ _) (r6.there 0 6 (by simp)) rfl rfl ?_); intro w8 hw8; have b8 : Blk w8 (w.heap.size + 1) (cc ⟨P1, l.set k (fitK b), n + 1⟩ ⟨some ⟨g2, 0, none⟩, 4, c2⟩) 51 := (by rw [hw8]; exact r6.setsW _ rfl); have k8 : Below w.heap.size w w8 := (by rw [hw8]; exact below_sets (by omega) _ k6 0); have ow8 := OwB.grown (w' := w8) ow6 (r := w.heap.size + 1) (by rw [hw8]; exact but_cells' _ _ _ _) (by omega) (r6.not5' neC5); clear hw8))
              have hrc : RC A w8 ⟨P1, l.set k (fitK b), n + 1⟩ ⟨some ⟨g2, 0, none⟩, 4, c2⟩ := ow8.sl3 (fun j' hj' _ => hA j' (by omega))
              exact bodyPost_ret (v := .tuple #[cv ⟨P1, l.set k (fitK b), n + 1⟩ ⟨some ⟨g2, 0, none⟩, 4, c2⟩, .int .i64 5]) (resCT Try.results58 _ _ (w.heap.size + 1) _ rfl (run_loadVar_row w8 (w.heap.size + 1) 51 51 _ (0, 0) _ b8 Try.underlying51 rfl size35) _ rfl) rfl (key.out w8 ⟨some ⟨g2, 0, none⟩, 4, c2⟩ 5 rfl hrc k8)

end Go.Proofs.Ytbifikeecmaakaa

/-
  How a keeper lies in memory ('Kk'); the contracts of layer 14's program: counts, put, Last. Conditions: fewer than 5000 writes.
-/
namespace Go.Proofs.Ytbifikeecmaakaa
open Go.RowKit

def Fk (k c r j : Nat) : Prop := j = k ∨ j = c ∨ j = r
def UC (c r j : Nat) : Prop := j = c ∨ j = r
theorem Ck.norm {U F : Nat → Prop} {w : World} {c r : Nat} {C : CelS} (h : Ck U F w c r C) : Ck (UC c r) (UC c r) w c r C := ⟨fun _ => Iff.rfl, fun _ => Iff.rfl, h.ne, h.po, h.b, h.len⟩
/-- The keeper in block k, of the cell in block c, on the power in block r, holds K. -/
structure Kk (w : World) (k c r : Nat) (K : KepS) (p q : Tri) : Prop where
  ck : Ck (UC c r) (UC c r) w c r K.c
  b : Blk w k (.pointer (some ⟨c, 0, none⟩) :: anc K.last p q) 114
  an : Anc (fun j => ¬ Fk k c r j) w K.last p q
  nc : k ≠ c
  nr : k ≠ r
  ok : okA K.last
theorem Kk.grow {w w' : World} {k c r : Nat} {K : KepS} {p q : Tri} (h : Kk w k c r K p q) (hb : Below w.heap.size w w') : Kk w' k c r K p q :=
  ⟨h.ck.keep (G := fun _ => False) (Kp.of_below hb) (fun _ _ h => h), h.b.below hb h.b.lt, h.an.below hb, h.nc, h.nr, h.ok⟩
/-- Something else was written. -/
theorem Kk.keep {w w' : World} {k c r : Nat} {K : KepS} {p q : Tri} {G : Nat → Prop} (h : Kk w k c r K p q) (hk : Kp G w w') (h1 : ∀ j, G j → ¬ Fk k c r j) (h2 : ∀ j, j < w.heap.size → ¬ Fk k c r j → G j → False) : Kk w' k c r K p q := by
  refine ⟨h.ck.keep hk (fun j hj hg => h1 j hg (Or.inr hj)), hk.blk h.b (fun hg => h1 k hg (Or.inl rfl)), h.an.keep hk.size (fun j hj ha => hk.block j hj (fun hg => h2 j hj ha hg)), h.nc, h.nr, h.ok⟩
theorem Kk.lt {w : World} {k c r : Nat} {K : KepS} {p q : Tri} (h : Kk w k c r K p q) : ∀ j, Fk k c r j → j < w.heap.size := fun j hj => by
  rcases hj with rfl | hj
  · exact h.b.lt
  · exact h.ck.lt j hj

set_option maxRecDepth 100000 in
theorem oKCounts (w : World) {k c r : Nat} {K : KepS} {p q : Tri} (h : Kk w k c r K p q) : Calls Try.prog 60 #[.pointer (some ⟨k, 0, none⟩)] w fun e w' => e = .returned (.bool K.has) ∧ w = w' := by
  have c1 : w.cell? ⟨k, 1, none⟩ = some (.int .i64 K.last.seq) := h.b.cell 1
  have hl := h.b.lt
  unfold KepS.has
  clear h
  generalize K.last.seq = sq at *
  go_enter Try.func60, Try.ntmps60
  go_wp2_with fail
  go_ret
  exact ⟨rfl, rfl⟩

set_option maxRecDepth 100000 in
set_option maxHeartbeats 1000000 in
theorem oKPut (w : World) {k c r : Nat} {K : KepS} {p q : Tri} (h : Kk w k c r K p q) {mm : Nat} (hf : K.c.fit mm) (hmm : mm ≤ 5000) (at_ : Int) (hat : i64 at_) {s : Option Addr} {m z : Nat} {b : List UInt8} (hb : BA (fun j => ¬ UC c r j) w s m z b) :
    Calls Try.prog 59 #[.pointer (some ⟨k, 0, none⟩), .int .i64 at_, .slice s m z] w fun e w' => e = .returned (.int .i64 (K.c.write at_ b).2) ∧ Ck (UC c r) (UC c r) w' c r (K.c.write at_ b).1 ∧ Kp (UC c r) w w' := by
  have c0 : w.cell? ⟨k, 0, none⟩ = some (.pointer (some ⟨c, 0, none⟩)) := h.b.cell 0
  have hl := h.b.lt
  have hlc := h.ck.b.lt
  have CW : Hid (Calls Try.prog 71 #[.pointer (some ⟨c, 0, none⟩), .int .i64 at_, .slice s m z] w fun e w' => e = .returned (.int .i64 (K.c.write at_ b).2) ∧ Cks (UC c r) (UC c r) w c r (K.c.write at_ b).1 w') := oCWrite w h.ck hf hmm at_ hat hb
  clear h hf hb hat
  generalize K.c.write at_ b = x at *
  go_enter Try.func59, Try.ntmps59
  go_wp2_with fail
  refine CW.out.mono ?_
  rintro e w1 ⟨rfl, U', F', h1, h2, h3, h4⟩
  go_wp2_with fail
  go_ret
  exact ⟨rfl, h1.norm, h4⟩

/-- What Last hands back. -/
def LastR (w : World) (K : KepS) (e : Ending) (w' : World) : Prop := ∃ p q, e = .returned (.tuple #[anV K.last p q, .bool K.has]) ∧ Anc (fun _ => True) w' K.last p q ∧ Below w.heap.size w w'
set_option maxRecDepth 100000 in
set_option maxHeartbeats 1000000 in
theorem oKLast (w : World) {k c r : Nat} {K : KepS} {p q : Tri} (h : Kk w k c r K p q) : Calls Try.prog 37 #[.pointer (some ⟨k, 0, none⟩)] w (LastR w K) := by
  obtain ⟨W0, hW0⟩ : ∃ W0, W0 = w.alloc (.cells #[.int .i64 0, .int .i64 0, .int .i64 0, .int .i64 0, .int .i64 0, .int .i64 0, .slice none 0 0, .slice none 0 0] 25) := ⟨_, rfl⟩
  have z0 : Blk W0 w.heap.size zanc 25 := by rw [hW0]; exact Blk.newAt w _ _ w.heap.size rfl _ rfl
  have k0 : Below w.heap.size w W0 := by rw [hW0]; exact below_alloc _ _
  have h0 := h.grow k0
  have rg : W0.rangeAt k 1 (anc K.last p q) := h0.b.range 1 _ (fun j v hj => by rw [Nat.add_comm, List.getElem?_cons_succ]; exact hj)
  have hl := h0.b.lt
  obtain ⟨sm1, sm2, sm3⟩ := h.ok.small
  have s0 : W0.heap.size = w.heap.size + 1 := by rw [hW0]; simp
  have anA : Anc (fun j => ¬ Fk k c r j ∧ j < w.heap.size) W0 K.last p q := (h.an.mono fun j hj ha => ⟨ha, hj⟩).below k0
  have CC : Hid (Calls Try.prog 18 #[.agg (anc K.last p q).toArray] W0 fun e w' => ∃ p' q', e = .returned (anV K.last p' q') ∧ Anc (fun j => (¬ Fk k c r j ∧ j < w.heap.size) ∨ W0.heap.size ≤ j) w' K.last p' q' ∧ Below W0.heap.size W0 w') := oCopyA W0 anA (by rw [← h0.an.ml]; omega) (by rw [← h0.an.kl]; omega) (fun x hx => by have := sm3 x hx; omega)
  have CN : Hid (∀ u, Below W0.heap.size W0 u → Calls Try.prog 60 #[.pointer (some ⟨k, 0, none⟩)] u fun e w' => e = .returned (.bool K.has) ∧ u = w') := fun u hu => oKCounts u (h0.grow hu)
  unfold LastR
  generalize K.has = hs at *
  generalize K.last = la at *
  clear h h0 sm1 sm2 sm3 anA
  have HS0 : Hid (W0.heap.size = w.heap.size + 1) := s0
  clear s0
  go_enter Try.func37, Try.ntmps37
  go_wp2_with ((with_reducible refine at_ld 25 ?_); (refine ld 25 (.tmp 6) 8 sizeAn _ Try.underlying25 rfl k 1 (anc la p q) rfl (by rw [← hW0]; exact rg) rfl ?_))
  rw [← hW0]
  clear hW0
  refine CC.out.mono ?_
  rintro e w1 ⟨p1, q1, rfl, an1, hb1⟩
  have z1 := z0.below hb1 z0.lt
  have k1 : Below w.heap.size w w1 := k0.trans (hb1.mono k0.size)
  have an2 : Anc (fun j => ¬ j = w.heap.size) w1 la p1 q1 := an1.mono fun j _ hj => by have := HS0.out; rcases hj with hj | hj <;> omega
  go_wp2_with fail
  refine (CN.out w1 hb1).mono ?_
  rintro e w2 ⟨rfl, rfl⟩
  unfold anV
  clear CC CN an1 hb1 z0 k0 rg
  go_wp2_with ((with_reducible refine at_st 25 ?_); (refine st' 25 (.tmp 2) (.tmp 8) 8 sizeAn w.heap.size 0 (anc la p1 q1) rfl (anc_one _ _ _) (z1.there 0 8 (by simp [zanc])) rfl rfl ?_); intro w8 hw8; have b8 : Blk w8 w.heap.size (anc la p1 q1) 25 := (by rw [hw8]; exact z1.setsW _ rfl); have k8 : Below w.heap.size w w8 := (by rw [hw8]; exact below_sets (Nat.le_refl _) _ k1 0); have g8 : w1.grownBy w8 (some w.heap.size) := (by rw [hw8]; exact but_cells' _ _ _ _); clear hw8)
  have an8 : Anc (fun j => ¬ j = w.heap.size) w8 la p1 q1 := an2.keep g8.size fun j hj ha => g8.block j hj (fun e => ha (Option.some.inj e))
  exact bodyPost_ret (v := .tuple #[anV la p1 q1, .bool hs]) (resCT Try.results37 _ _ w.heap.size _ rfl (run_loadVar_row w8 w.heap.size 25 25 _ (0, 0) _ b8 Try.underlying25 rfl sizeAn) _ rfl) rfl ⟨p1, q1, rfl, an8.mono (fun _ _ _ => trivial), k8⟩

end Go.Proofs.Ytbifikeecmaakaa

/-
  The contracts of layer 14's Check: the program's and the reference's. Conditions: none.
-/
namespace Go.Proofs.Ytbifikeecmaakaa
open Go.RowKit

set_option maxRecDepth 100000 in
set_option maxHeartbeats 4000000 in
theorem oCheckA (w : World) {A : Nat → Prop} {a : AncS} {p q : Tri} (h : Anc A w a p q) : Calls Try.prog 14 #[anV a p q] w fun e w' => e = .returned (.int .i64 (chkA a)) ∧ Below w.heap.size w w' := by
  obtain ⟨sq, ep, gi, ro, re, pe, ma, ks⟩ := a
  obtain ⟨pa, pn, pc⟩ := p
  obtain ⟨qa, qn, qc⟩ := q
  have hml : ma.length = pn := h.ml
  have hkl : ks.length = qn := h.kl
  have hmx := h.max
  dsimp only at hmx
  have HH : Hid (Anc A w ⟨sq, ep, gi, ro, re, pe, ma, ks⟩ ⟨pa, pn, pc⟩ ⟨qa, qn, qc⟩) := h
  clear h
  unfold anV anc
  dsimp only
  by_cases t1 : 1 ≤ sq ∧ sq ≤ 1099511627776
  · have C1 : Hid (∀ w, Calls Try.prog 49 #[.int .i64 sq, .int .i64 1, .int .i64 1099511627776] w fun e w' => e = .returned (.bool true) ∧ w = w') := fun w => oWithin w sq 1 1099511627776 true (decide_eq_true ‹_›).symm
    by_cases t2 : 0 ≤ gi ∧ gi ≤ 1099511627776
    · have C2 : Hid (∀ w, Calls Try.prog 49 #[.int .i64 gi, .int .i64 0, .int .i64 1099511627776] w fun e w' => e = .returned (.bool true) ∧ w = w') := fun w => oWithin w gi 0 1099511627776 true (decide_eq_true ‹_›).symm
      by_cases t3 : 0 ≤ ep ∧ ep ≤ gi
      · have C3 : Hid (∀ w, Calls Try.prog 49 #[.int .i64 ep, .int .i64 0, .int .i64 gi] w fun e w' => e = .returned (.bool true) ∧ w = w') := fun w => oWithin w ep 0 gi true (decide_eq_true ‹_›).symm
        by_cases t4 : 0 ≤ re ∧ re ≤ 1099511627776
        · have C4 : Hid (∀ w, Calls Try.prog 49 #[.int .i64 re, .int .i64 0, .int .i64 1099511627776] w fun e w' => e = .returned (.bool true) ∧ w = w') := fun w => oWithin w re 0 1099511627776 true (decide_eq_true ‹_›).symm
          by_cases t5 : (-1) ≤ ro ∧ ro ≤ 4095
          · have D1 : Hid (∀ w, Calls Try.prog 49 #[.int .i64 ro, .int .i64 (-1), .int .i64 4095] w fun e w' => e = .returned (.bool true) ∧ w = w') := fun w => oWithin w ro (-1) 4095 true (decide_eq_true ‹_›).symm
            by_cases t6 : 0 ≤ pe ∧ pe ≤ 4095
            · have D2 : Hid (∀ w, Calls Try.prog 49 #[.int .i64 pe, .int .i64 0, .int .i64 4095] w fun e w' => e = .returned (.bool true) ∧ w = w') := fun w => oWithin w pe 0 4095 true (decide_eq_true ‹_›).symm
              by_cases s1 : pn = 32
              · have b1 : ((pn : Int) == 32) = true := by simp; omega
                by_cases s2 : 16 < qn
                · rw [chkA_size (show okN _ from ⟨t1, t2, t3, t4⟩) (show okB _ from ⟨t5, t6⟩) (Or.inr (by show 16 < ks.length; omega))]
                  have b2 : (16 : Int) < (qn : Int) := by omega
                  clear HH hml hkl t1 t2 t3 t4 t5 t6
                  go_enter Try.func14, Try.ntmps14
                  go_wp2_with fail
                  refine (C1.out _).mono ?_
                  rintro e w1 ⟨rfl, rfl⟩
                  go_wp2_with fail
                  refine (C2.out _).mono ?_
                  rintro e w1 ⟨rfl, rfl⟩
                  go_wp2_with fail
                  refine (C3.out _).mono ?_
                  rintro e w1 ⟨rfl, rfl⟩
                  go_wp2_with fail
                  refine (C4.out _).mono ?_
                  rintro e w1 ⟨rfl, rfl⟩
                  go_wp2_with fail
                  refine (D1.out _).mono ?_
                  rintro e w1 ⟨rfl, rfl⟩
                  go_wp2_with fail
                  refine (D2.out _).mono ?_
                  rintro e w1 ⟨rfl, rfl⟩
                  go_wp2_with fail
                  go_ret
                  exact ⟨rfl, below_alloc _ _⟩
                · have b2 : ¬ (16 : Int) < (qn : Int) := by omega
                  rw [chkA_keks (show okN _ from ⟨t1, t2, t3, t4⟩) (show okB _ from ⟨t5, t6⟩) (by show ¬ (ma.length ≠ 32 ∨ 16 < ks.length); omega)]
                  dsimp only
                  clear t1 t2 t3 t4 t5 t6
                  go_enter Try.func14, Try.ntmps14
                  go_wp2_with fail
                  refine (C1.out _).mono ?_
                  rintro e w1 ⟨rfl, rfl⟩
                  go_wp2_with fail
                  refine (C2.out _).mono ?_
                  rintro e w1 ⟨rfl, rfl⟩
                  go_wp2_with fail
                  refine (C3.out _).mono ?_
                  rintro e w1 ⟨rfl, rfl⟩
                  go_wp2_with fail
                  refine (C4.out _).mono ?_
                  rintro e w1 ⟨rfl, rfl⟩
                  go_wp2_with fail
                  refine (D1.out _).mono ?_
                  rintro e w1 ⟨rfl, rfl⟩
                  go_wp2_with fail
                  refine (D2.out _).mono ?_
                  rintro e w1 ⟨rfl, rfl⟩
                  go_wp2_with fail
                  clear C1 C2 C3 C4 D1 D2
                  go_loopw [53] (fun i wr => ∃ k : Nat, k ≤ qn ∧ i = .int .i64 (k : Int) ∧ Hid (chkKs ks = chkKs (ks.drop k)) ∧ Below w.heap.size w wr) (fun i _ => qn - (intOf i).toNat)
                  case atStart => exact ⟨0, Nat.zero_le _, rfl, rfl, below_alloc _ _⟩
                  case round =>
                    obtain ⟨k, hk, rfl, HI, hb⟩ := hrel
                    by_cases hlt : k < qn
                    · have i0 : (k : Int) < (qn : Int) := by omega
                      obtain ⟨x, hx⟩ : ∃ x, ks[k]? = some x := ⟨_, List.getElem?_eq_getElem (by omega)⟩
                      obtain ⟨b, o, s, m, c, e0, hlb, hrg, hB, -, -⟩ := (HH.out.below hb).at (x := x) (k := k) hx
                      dsimp only at e0
                      subst e0
                      have hm : x.key.length = m := hB.1.len
                      have hd := chkKs_drop hx
                      obtain ⟨g, hg⟩ : ∃ g, g = wr.heap.size := ⟨_, rfl⟩
                      have z9 : Blk (wr.alloc (.cells #[.int .i64 0, .int .i64 0, .slice none 0 0] 78)) g [.int .i64 0, .int .i64 0, .slice none 0 0] 78 := Blk.newAt wr _ _ g hg.symm _ rfl
                      have k9 : Below w.heap.size w (wr.alloc (.cells #[.int .i64 0, .int .i64 0, .slice none 0 0] 78)) := hb.alloc hb.size _
                      have CK : Hid (∀ u, Calls Try.prog 50 #[.agg (kkc x s m c).toArray] u fun e w' => e = .returned (.int .i64 (chkK x)) ∧ Below u.heap.size u w') := fun u => oCheckKek u x hm
                      generalize chkK x = cd at *
                      go_wp2_with (first | ((with_reducible refine at_ld 78 ?_); (first | (refine ld 78 (.tmp 55) 3 sizeKk _ Try.underlying78 rfl b (o + k * 3) (kkc x s m c) rfl hrg rfl ?_) | (refine ld 78 (.tmp 4) 3 sizeKk _ Try.underlying78 rfl wr.heap.size 0 (kkc x s m c) rfl (by rw [← hg]; exact b5.whole) rfl ?_))) | ((with_reducible refine at_st 78 ?_); (refine st' 78 (.tmp 4) (.tmp 56) 3 sizeKk wr.heap.size 0 (kkc x s m c) rfl (kkc_one _ _ _ _) (by rw [← hg]; exact z9.there 0 3 (by simp)) rfl rfl ?_); intro v5 hv5; have b5 : Blk v5 g (kkc x s m c) 78 := (by rw [hv5, ← hg]; exact z9.setsW _ rfl); have k5 : Below w.heap.size w v5 := (by rw [hv5]; exact below_sets hb.size _ k9 0); clear hv5))
                      refine (CK.out v5).mono ?_
                      rintro e v6 ⟨rfl, hb6⟩
                      have k6 : Below w.heap.size w v6 := k5.trans (hb6.mono k5.size)
                      clear CK hb6 k5 b5 z9 k9 hrg hB hb
                      by_cases hc : cd = 0
                      · have b3 : (cd == 0) = true := by simp [hc]
                        rw [if_pos hc] at hd
                        have HN : Hid (chkKs ks = chkKs (ks.drop (k + 1))) := HI.out.trans hd
                        clear hd HI hx
                        go_wp2_with fail
                        go_roundw
                        case rel => exact ⟨k + 1, by omega, by go_num, HN, k6⟩
                        case measure => simp [intOf]; omega
                      · have b3 : (cd == 0) = false := by simp [hc]
                        rw [if_neg hc] at hd
                        have HN : Hid (chkKs ks = cd) := HI.out.trans hd
                        clear hd HI hx
                        go_wp2_with fail
                        go_ret
                        exact ⟨by rw [HN.out]; rfl, k6⟩
                    · have i0 : ¬ (k : Int) < (qn : Int) := by omega
                      have HN : Hid (chkKs ks = 0) := by show _ = _; rw [HI.out, List.drop_of_length_le (by omega)]; rfl
                      clear HI
                      go_wp2_with fail
                      go_ret
                      exact ⟨by rw [HN.out]; rfl, hb⟩
              · have b1 : ((pn : Int) == 32) = false := by simp; omega
                rw [chkA_size (show okN _ from ⟨t1, t2, t3, t4⟩) (show okB _ from ⟨t5, t6⟩) (Or.inl (by show ma.length ≠ 32; omega))]
                clear HH hml hkl t1 t2 t3 t4 t5 t6
                go_enter Try.func14, Try.ntmps14
                go_wp2_with fail
                refine (C1.out _).mono ?_
                rintro e w1 ⟨rfl, rfl⟩
                go_wp2_with fail
                refine (C2.out _).mono ?_
                rintro e w1 ⟨rfl, rfl⟩
                go_wp2_with fail
                refine (C3.out _).mono ?_
                rintro e w1 ⟨rfl, rfl⟩
                go_wp2_with fail
                refine (C4.out _).mono ?_
                rintro e w1 ⟨rfl, rfl⟩
                go_wp2_with fail
                refine (D1.out _).mono ?_
                rintro e w1 ⟨rfl, rfl⟩
                go_wp2_with fail
                refine (D2.out _).mono ?_
                rintro e w1 ⟨rfl, rfl⟩
                go_wp2_with fail
                go_ret
                exact ⟨rfl, below_alloc _ _⟩
            · rw [chkA_blk (show okN _ from ⟨t1, t2, t3, t4⟩) (fun hh => t6 hh.2)]
              have D2 : Hid (∀ w, Calls Try.prog 49 #[.int .i64 pe, .int .i64 0, .int .i64 4095] w fun e w' => e = .returned (.bool false) ∧ w = w') := fun w => oWithin w pe 0 4095 false (decide_eq_false ‹_›).symm
              clear HH hml hkl hmx t1 t2 t3 t4 t5 t6
              go_enter Try.func14, Try.ntmps14
              go_wp2_with fail
              refine (C1.out _).mono ?_
              rintro e w1 ⟨rfl, rfl⟩
              go_wp2_with fail
              refine (C2.out _).mono ?_
              rintro e w1 ⟨rfl, rfl⟩
              go_wp2_with fail
              refine (C3.out _).mono ?_
              rintro e w1 ⟨rfl, rfl⟩
              go_wp2_with fail
              refine (C4.out _).mono ?_
              rintro e w1 ⟨rfl, rfl⟩
              go_wp2_with fail
              refine (D1.out _).mono ?_
              rintro e w1 ⟨rfl, rfl⟩
              go_wp2_with fail
              refine (D2.out _).mono ?_
              rintro e w1 ⟨rfl, rfl⟩
              go_wp2_with fail
              go_ret
              exact ⟨rfl, below_alloc _ _⟩
          · rw [chkA_blk (show okN _ from ⟨t1, t2, t3, t4⟩) (fun hh => t5 hh.1)]
            have D1 : Hid (∀ w, Calls Try.prog 49 #[.int .i64 ro, .int .i64 (-1), .int .i64 4095] w fun e w' => e = .returned (.bool false) ∧ w = w') := fun w => oWithin w ro (-1) 4095 false (decide_eq_false ‹_›).symm
            clear HH hml hkl hmx t1 t2 t3 t4 t5
            go_enter Try.func14, Try.ntmps14
            go_wp2_with fail
            refine (C1.out _).mono ?_
            rintro e w1 ⟨rfl, rfl⟩
            go_wp2_with fail
            refine (C2.out _).mono ?_
            rintro e w1 ⟨rfl, rfl⟩
            go_wp2_with fail
            refine (C3.out _).mono ?_
            rintro e w1 ⟨rfl, rfl⟩
            go_wp2_with fail
            refine (C4.out _).mono ?_
            rintro e w1 ⟨rfl, rfl⟩
            go_wp2_with fail
            refine (D1.out _).mono ?_
            rintro e w1 ⟨rfl, rfl⟩
            go_wp2_with fail
            go_ret
            exact ⟨rfl, below_alloc _ _⟩
        · rw [chkA_num (fun hh => t4 hh.2.2.2)]
          have C4 : Hid (∀ w, Calls Try.prog 49 #[.int .i64 re, .int .i64 0, .int .i64 1099511627776] w fun e w' => e = .returned (.bool false) ∧ w = w') := fun w => oWithin w re 0 1099511627776 false (decide_eq_false ‹_›).symm
          clear HH hml hkl hmx t1 t2 t3 t4
          go_enter Try.func14, Try.ntmps14
          go_wp2_with fail
          refine (C1.out _).mono ?_
          rintro e w1 ⟨rfl, rfl⟩
          go_wp2_with fail
          refine (C2.out _).mono ?_
          rintro e w1 ⟨rfl, rfl⟩
          go_wp2_with fail
          refine (C3.out _).mono ?_
          rintro e w1 ⟨rfl, rfl⟩
          go_wp2_with fail
          refine (C4.out _).mono ?_
          rintro e w1 ⟨rfl, rfl⟩
          go_wp2_with fail
          go_ret
          exact ⟨rfl, below_alloc _ _⟩
      · rw [chkA_num (fun hh => t3 hh.2.2.1)]
        have C3 : Hid (∀ w, Calls Try.prog 49 #[.int .i64 ep, .int .i64 0, .int .i64 gi] w fun e w' => e = .returned (.bool false) ∧ w = w') := fun w => oWithin w ep 0 gi false (decide_eq_false ‹_›).symm
        clear HH hml hkl hmx t1 t2 t3
        go_enter Try.func14, Try.ntmps14
        go_wp2_with fail
        refine (C1.out _).mono ?_
        rintro e w1 ⟨rfl, rfl⟩
        go_wp2_with fail
        refine (C2.out _).mono ?_
        rintro e w1 ⟨rfl, rfl⟩
        go_wp2_with fail
        refine (C3.out _).mono ?_
        rintro e w1 ⟨rfl, rfl⟩
        go_wp2_with fail
        go_ret
        exact ⟨rfl, below_alloc _ _⟩
    · rw [chkA_num (fun hh => t2 hh.2.1)]
      have C2 : Hid (∀ w, Calls Try.prog 49 #[.int .i64 gi, .int .i64 0, .int .i64 1099511627776] w fun e w' => e = .returned (.bool false) ∧ w = w') := fun w => oWithin w gi 0 1099511627776 false (decide_eq_false ‹_›).symm
      clear HH hml hkl hmx t1 t2
      go_enter Try.func14, Try.ntmps14
      go_wp2_with fail
      refine (C1.out _).mono ?_
      rintro e w1 ⟨rfl, rfl⟩
      go_wp2_with fail
      refine (C2.out _).mono ?_
      rintro e w1 ⟨rfl, rfl⟩
      go_wp2_with fail
      go_ret
      exact ⟨rfl, below_alloc _ _⟩
  · rw [chkA_num (fun hh => t1 hh.1)]
    have C1 : Hid (∀ w, Calls Try.prog 49 #[.int .i64 sq, .int .i64 1, .int .i64 1099511627776] w fun e w' => e = .returned (.bool false) ∧ w = w') := fun w => oWithin w sq 1 1099511627776 false (decide_eq_false ‹_›).symm
    clear HH hml hkl hmx t1
    go_enter Try.func14, Try.ntmps14
    go_wp2_with fail
    refine (C1.out _).mono ?_
    rintro e w1 ⟨rfl, rfl⟩
    go_wp2_with fail
    go_ret
    exact ⟨rfl, below_alloc _ _⟩

end Go.Proofs.Ytbifikeecmaakaa
