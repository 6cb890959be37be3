/-
  3 texts in one. No statement of the seat is proved here.
-/
import Derived.Test.YtnmmopneacdgfaaI12

/-
  Contracts of layer 18's program: pairs, kids copied. Condition: keys and values of at most a thousand bytes, at most a hundred thousand things.
-/
namespace Go.Proofs.Ytnmmopneacdgfaa
open Go.RowKit
set_option linter.unusedVariables false
set_option maxRecDepth 100000 in
set_option maxHeartbeats 4000000 in
theorem oCpdP (w : World) {A : Nat → Prop} {a : Option Addr} {n c : Nat} {l : List PairS} (h : SlP A w a n c l) (hs : ∀ x ∈ l, x.key.length ≤ 1000 ∧ x.value.length ≤ 1000) (hn : n ≤ 100000) : Calls Try.prog 66 #[.slice a n c, .func (.func 67) #[] #[]] w fun e w' => ∃ a' m' c', e = .returned (.slice a' m' c') ∧ OwS (elPr5 fun j => w.heap.size ≤ j) 2 44 w' w.heap.size (.slice a' m' c') l ∧ Below w.heap.size w w' := by
  have hln : l.length = n := h.len
  have HS : Hid (SlP A w a n c l) := h
  have CF : Hid (∀ (u : World) k x vs, l[k]? = some x → elPr A u x vs → Calls Try.prog 67 #[.agg vs.toArray] u fun e u' => ∃ kp km kc vp vm vc, e = .returned (.agg (List.toArray [.slice kp km kc, .slice vp vm vc])) ∧ elPr5 (fun j => u.heap.size ≤ j) u' x [.slice kp km kc, .slice vp vm vc] ∧ Below u.heap.size u u') := fun u k x vs hx hv => oCpP u hv (hs x (List.mem_of_getElem? hx))
  have HF : Hid (∀ k, n ≤ k → l.take k = l) := fun k hk => List.take_of_length_le (by omega)
  clear h hs
  go_enter Try.func66, Try.ntmps66
  go_wp2_with fail
  go_loopw [5, 10] (fun s i wr => ∃ k : Nat, k ≤ n ∧ i = .int .i64 (k : Int) ∧ (∃ pa pm pc, s = .slice pa pm pc ∧ Hid (OwS (elPr5 fun j => w.heap.size ≤ j) 2 44 wr w.heap.size (.slice pa pm pc) (l.take k))) ∧ Below w.heap.size w wr) (fun _ i _ => n - (intOf i).toNat)
  case atStart => exact ⟨0, Nat.zero_le _, rfl, ⟨none, 0, 0, rfl, OwS.nil _ _ _ _ _⟩, Below.refl _ _⟩
  case round =>
    obtain ⟨k, hk, rfl, ⟨pa, pm, pc, rfl, HO⟩, hb⟩ := hrel
    by_cases hlt : k < n
    · have i0 : (k : Int) < (n : Int) := by omega
      obtain ⟨x, hx⟩ : ∃ x, l[k]? = some x := ⟨_, List.getElem?_eq_getElem (by omega)⟩
      have hT : Hid (l.take (k + 1) = l.take k ++ [x]) := by show _ = _; rw [List.take_add_one, hx]; rfl
      obtain ⟨b, o, vs, ea, hlb, hrg, hvl, hel⟩ := HS.out.at hb hx
      obtain ⟨g, hg⟩ : ∃ g, g = wr.heap.size := ⟨_, rfl⟩
      have hel0 := hel
      obtain ⟨kp, km, kc, vp, vm, vc, rfl, hB1, hB2⟩ := hel
      have z9 : Blk (wr.alloc (.cells #[.slice none 0 0, .slice none 0 0] 44)) g [.slice none 0 0, .slice none 0 0] 44 := Blk.newAt wr _ _ g hg.symm _ rfl
      have k9 : Below w.heap.size w (wr.alloc (.cells #[.slice none 0 0, .slice none 0 0] 44)) := hb.alloc hb.size _
      have k8 : Below wr.heap.size wr (wr.alloc (.cells #[.slice none 0 0, .slice none 0 0] 44)) := below_alloc _ _
      subst ea
      have hK : Hid (∀ u, Below wr.heap.size wr u → Calls Try.prog 67 #[.agg (List.toArray [.slice kp km kc, .slice vp vm vc])] u fun e u' => ∃ kp km kc vp vm vc, e = .returned (.agg (List.toArray [.slice kp km kc, .slice vp vm vc])) ∧ elPr5 (fun j => u.heap.size ≤ j) u' x [.slice kp km kc, .slice vp vm vc] ∧ Below u.heap.size u u') := fun u hu => CF.out u k x _ hx (elPr.below hu x _ hel0)
      have hlk : (l.take k).length = k := by simp; omega
      generalize l.take k = L0 at *
      clear hel0
      go_wp2_with (first | ((with_reducible refine at_ld 44 ?_); (first | (refine ld 44 (.tmp 12) 2 sizePr _ Try.underlying44 rfl b (o + k * 2) [.slice kp km kc, .slice vp vm vc] rfl hrg rfl ?_) | (refine ld 44 (.tmp 7) 2 sizePr _ Try.underlying44 rfl wr.heap.size 0 [.slice kp km kc, .slice vp vm vc] rfl (by rw [← hg]; exact b5.whole) rfl ?_))) | ((with_reducible refine at_st 44 ?_); (refine st' 44 (.tmp 7) (.tmp 13) 2 sizePr wr.heap.size 0 [.slice kp km kc, .slice vp vm vc] rfl (by intro u hu; simp only [List.mem_cons, List.not_mem_nil, or_false] at hu; rcases hu with rfl | rfl <;> rfl) (by rw [← hg]; exact z9.there 0 2 (by simp)) rfl rfl ?_); intro v5 hv5; have b5 : Blk v5 g [.slice kp km kc, .slice vp vm vc] 44 := (by rw [hv5, ← hg]; exact z9.setsW _ rfl); have k5 : Below w.heap.size w v5 := (by rw [hv5]; exact below_sets hb.size _ k9 0); have k6 : Below wr.heap.size wr v5 := (by rw [hv5]; exact below_sets (Nat.le_refl _) _ k8 0); clear hv5))
      refine (hK.out v5 k6).mono ?_
      rintro e v6 ⟨ap, am, ac, bp, bm, bc, rfl, el6, hb6⟩
      have k7 : Below w.heap.size w v6 := k5.trans (hb6.mono k5.size)
      have k8 : Below wr.heap.size wr v6 := k6.trans (hb6.mono k6.size)
      have k10 : Below w.heap.size w (v6.alloc (.cells (List.toArray [.slice ap am ac, .slice bp bm bc]) 44)) := k7.alloc k7.size _
      have HO5 : OwS (elPr5 fun j => w.heap.size ≤ j) 2 44 v6 w.heap.size (.slice pa pm pc) L0 := OwS.keep HO.out (elPr5.keep fun j cur f ha hh => k8.block j (Array.getElem?_eq_some_iff.1 hh).1) (fun j hj => k8.block j (HO.out.lt j hj).2)
      have HO6 : Hid (OwS (elPr5 fun j => w.heap.size ≤ j) 2 44 (v6.alloc (.cells (List.toArray [.slice ap am ac, .slice bp bm bc]) 44)) w.heap.size (.slice pa pm pc) L0) := OwS.keep HO5 (elPr5.keep fun j cur f ha hh => (below_alloc v6 _).block j (Array.getElem?_eq_some_iff.1 hh).1) (fun j hj => (below_alloc v6 _).block j (HO5.lt j hj).2)
      have el7 : elPr5 (fun j => w.heap.size ≤ j) (v6.alloc (.cells (List.toArray [.slice ap am ac, .slice bp bm bc]) 44)) x [.slice ap am ac, .slice bp bm bc] := by
        obtain ⟨_, _, _, _, _, _, ee, P1, P2⟩ := el6
        exact ⟨_, _, _, _, _, _, ee, (P1.below (below_alloc _ _)).mono (fun j _ hj => Nat.le_trans k5.size hj), (P2.below (below_alloc _ _)).mono (fun j _ hj => Nat.le_trans k5.size hj)⟩
      have S6 : Hid (Sl (elPr5 fun j => w.heap.size ≤ j) 2 (fun j => w.heap.size ≤ j) (v6.alloc (.cells (List.toArray [.slice ap am ac, .slice bp bm bc]) 44)) (some ⟨v6.heap.size, 0, none⟩) 1 1 [x]) := Sl.one (Blk.newAt v6 _ _ v6.heap.size rfl _ rfl) (elPr5.row el7) k7.size
      have z6 : w.heap.size ≤ (v6.alloc (.cells (List.toArray [.slice ap am ac, .slice bp bm bc]) 44)).heap.size := k10.size
      clear hK hb6 k5 k6 k8 b5 z9 k9 hrg hb HO HO5 el6 el7
      go_wp2_with (at_builtin; go_loud (refine wpList_slapp (elPr5 fun j => w.heap.size ≤ j) 2 48 22 44 _ Try.underlying22 infoPr rfl (by decide) (by decide) (v6.alloc (.cells (List.toArray [.slice ap am ac, .slice bp bm bc]) 44)) rfl (.tmp 14) (.tmp 18) rfl w.heap.size (.slice pa pm pc) L0 rfl HO6.out (fun j => w.heap.size ≤ j) (some ⟨v6.heap.size, 0, none⟩) 1 1 [x] rfl S6.out (by rw [hlk]; simp; omega) z6 (fun w' y vs hg hy => elPr5.keep (fun j cur f _ hh => hg.block j (Array.getElem?_eq_some_iff.1 hh).1 (fun e => OwS.not5 HO6.out nePr5 j cur f e.symm hh)) y vs hy) ?_; intro v1 w1 o1 b1; obtain ⟨a1, m1, c1, rfl, hm1⟩ := o1.shape; have kk : Below w.heap.size w w1 := k10.grown b1 z6 (fun j hj => (OwS.lt HO6.out j hj).1); have OO : Hid (OwS (elPr5 fun j => w.heap.size ≤ j) 2 44 w1 w.heap.size (.slice a1 m1 c1) (L0 ++ [x])) := o1; clear o1 b1))
      go_roundw
      case rel => exact ⟨k + 1, by omega, by go_num, ⟨a1, m1, c1, rfl, by rw [hT.out]; exact OO⟩, kk⟩
      case measure => simp [intOf]; omega
    · have i0 : ¬ (k : Int) < (n : Int) := by omega
      rw [HF.out k (by omega)] at HO
      go_wp2_with fail
      go_ret
      exact ⟨pa, pm, pc, rfl, HO.out, hb⟩
set_option maxRecDepth 100000 in
set_option maxHeartbeats 4000000 in
theorem oCpdK (w : World) {A : Nat → Prop} {a : Option Addr} {n c : Nat} {l : List KidS} (h : SlD A w a n c l) (hs : ∀ x ∈ l, x.key.length ≤ 1000) (hn : n ≤ 100000) : Calls Try.prog 68 #[.slice a n c, .func (.func 69) #[] #[]] w fun e w' => ∃ a' m' c', e = .returned (.slice a' m' c') ∧ OwS (elKd5 fun j => w.heap.size ≤ j) 3 46 w' w.heap.size (.slice a' m' c') l ∧ Below w.heap.size w w' := by
  have hln : l.length = n := h.len
  have HS : Hid (SlD A w a n c l) := h
  have CF : Hid (∀ (u : World) k x vs, l[k]? = some x → elKd A u x vs → Calls Try.prog 69 #[.agg vs.toArray] u fun e u' => ∃ kp km kc, e = .returned (.agg (List.toArray [.slice kp km kc, .int .i64 x.page, .int .i64 x.epoch])) ∧ elKd5 (fun j => u.heap.size ≤ j) u' x [.slice kp km kc, .int .i64 x.page, .int .i64 x.epoch] ∧ Below u.heap.size u u') := fun u k x vs hx hv => oCpK u hv (hs x (List.mem_of_getElem? hx))
  have HF : Hid (∀ k, n ≤ k → l.take k = l) := fun k hk => List.take_of_length_le (by omega)
  clear h hs
  go_enter Try.func68, Try.ntmps68
  go_wp2_with fail
  go_loopw [5, 10] (fun s i wr => ∃ k : Nat, k ≤ n ∧ i = .int .i64 (k : Int) ∧ (∃ pa pm pc, s = .slice pa pm pc ∧ Hid (OwS (elKd5 fun j => w.heap.size ≤ j) 3 46 wr w.heap.size (.slice pa pm pc) (l.take k))) ∧ Below w.heap.size w wr) (fun _ i _ => n - (intOf i).toNat)
  case atStart => exact ⟨0, Nat.zero_le _, rfl, ⟨none, 0, 0, rfl, OwS.nil _ _ _ _ _⟩, Below.refl _ _⟩
  case round =>
    obtain ⟨k, hk, rfl, ⟨pa, pm, pc, rfl, HO⟩, hb⟩ := hrel
    by_cases hlt : k < n
    · have i0 : (k : Int) < (n : Int) := by omega
      obtain ⟨x, hx⟩ : ∃ x, l[k]? = some x := ⟨_, List.getElem?_eq_getElem (by omega)⟩
      have hT : Hid (l.take (k + 1) = l.take k ++ [x]) := by show _ = _; rw [List.take_add_one, hx]; rfl
      obtain ⟨b, o, vs, ea, hlb, hrg, hvl, hel⟩ := HS.out.at hb hx
      obtain ⟨g, hg⟩ : ∃ g, g = wr.heap.size := ⟨_, rfl⟩
      have hel0 := hel
      obtain ⟨kp, km, kc, rfl, hB1, hp6, he6⟩ := hel
      have z9 : Blk (wr.alloc (.cells #[.slice none 0 0, .int .i64 0, .int .i64 0] 46)) g [.slice none 0 0, .int .i64 0, .int .i64 0] 46 := Blk.newAt wr _ _ g hg.symm _ rfl
      have k9 : Below w.heap.size w (wr.alloc (.cells #[.slice none 0 0, .int .i64 0, .int .i64 0] 46)) := hb.alloc hb.size _
      have k8 : Below wr.heap.size wr (wr.alloc (.cells #[.slice none 0 0, .int .i64 0, .int .i64 0] 46)) := below_alloc _ _
      subst ea
      have hK : Hid (∀ u, Below wr.heap.size wr u → Calls Try.prog 69 #[.agg (List.toArray [.slice kp km kc, .int .i64 x.page, .int .i64 x.epoch])] u fun e u' => ∃ kp km kc, e = .returned (.agg (List.toArray [.slice kp km kc, .int .i64 x.page, .int .i64 x.epoch])) ∧ elKd5 (fun j => u.heap.size ≤ j) u' x [.slice kp km kc, .int .i64 x.page, .int .i64 x.epoch] ∧ Below u.heap.size u u') := fun u hu => CF.out u k x _ hx (elKd.below hu x _ hel0)
      have hlk : (l.take k).length = k := by simp; omega
      generalize l.take k = L0 at *
      clear hel0
      go_wp2_with (first | ((with_reducible refine at_ld 46 ?_); (first | (refine ld 46 (.tmp 12) 3 sizeKd _ Try.underlying46 rfl b (o + k * 3) [.slice kp km kc, .int .i64 x.page, .int .i64 x.epoch] rfl hrg rfl ?_) | (refine ld 46 (.tmp 7) 3 sizeKd _ Try.underlying46 rfl wr.heap.size 0 [.slice kp km kc, .int .i64 x.page, .int .i64 x.epoch] rfl (by rw [← hg]; exact b5.whole) rfl ?_))) | ((with_reducible refine at_st 46 ?_); (refine st' 46 (.tmp 7) (.tmp 13) 3 sizeKd wr.heap.size 0 [.slice kp km kc, .int .i64 x.page, .int .i64 x.epoch] rfl (by intro u hu; simp only [List.mem_cons, List.not_mem_nil, or_false] at hu; rcases hu with rfl | rfl | rfl <;> rfl) (by rw [← hg]; exact z9.there 0 3 (by simp)) rfl rfl ?_); intro v5 hv5; have b5 : Blk v5 g [.slice kp km kc, .int .i64 x.page, .int .i64 x.epoch] 46 := (by rw [hv5, ← hg]; exact z9.setsW _ rfl); have k5 : Below w.heap.size w v5 := (by rw [hv5]; exact below_sets hb.size _ k9 0); have k6 : Below wr.heap.size wr v5 := (by rw [hv5]; exact below_sets (Nat.le_refl _) _ k8 0); clear hv5))
      refine (hK.out v5 k6).mono ?_
      rintro e v6 ⟨ap, am, ac, rfl, el6, hb6⟩
      have k7 : Below w.heap.size w v6 := k5.trans (hb6.mono k5.size)
      have k8 : Below wr.heap.size wr v6 := k6.trans (hb6.mono k6.size)
      have k10 : Below w.heap.size w (v6.alloc (.cells (List.toArray [.slice ap am ac, .int .i64 x.page, .int .i64 x.epoch]) 46)) := k7.alloc k7.size _
      have HO5 : OwS (elKd5 fun j => w.heap.size ≤ j) 3 46 v6 w.heap.size (.slice pa pm pc) L0 := OwS.keep HO.out (elKd5.keep fun j cur f ha hh => k8.block j (Array.getElem?_eq_some_iff.1 hh).1) (fun j hj => k8.block j (HO.out.lt j hj).2)
      have HO6 : Hid (OwS (elKd5 fun j => w.heap.size ≤ j) 3 46 (v6.alloc (.cells (List.toArray [.slice ap am ac, .int .i64 x.page, .int .i64 x.epoch]) 46)) w.heap.size (.slice pa pm pc) L0) := OwS.keep HO5 (elKd5.keep fun j cur f ha hh => (below_alloc v6 _).block j (Array.getElem?_eq_some_iff.1 hh).1) (fun j hj => (below_alloc v6 _).block j (HO5.lt j hj).2)
      have el7 : elKd5 (fun j => w.heap.size ≤ j) (v6.alloc (.cells (List.toArray [.slice ap am ac, .int .i64 x.page, .int .i64 x.epoch]) 46)) x [.slice ap am ac, .int .i64 x.page, .int .i64 x.epoch] := by
        obtain ⟨_, _, _, ee, P1, P2⟩ := el6
        exact ⟨_, _, _, ee, (P1.below (below_alloc _ _)).mono (fun j _ hj => Nat.le_trans k5.size hj), P2⟩
      have S6 : Hid (Sl (elKd5 fun j => w.heap.size ≤ j) 3 (fun j => w.heap.size ≤ j) (v6.alloc (.cells (List.toArray [.slice ap am ac, .int .i64 x.page, .int .i64 x.epoch]) 46)) (some ⟨v6.heap.size, 0, none⟩) 1 1 [x]) := Sl.one (Blk.newAt v6 _ _ v6.heap.size rfl _ rfl) (elKd5.row el7) k7.size
      have z6 : w.heap.size ≤ (v6.alloc (.cells (List.toArray [.slice ap am ac, .int .i64 x.page, .int .i64 x.epoch]) 46)).heap.size := k10.size
      clear hK hb6 k5 k6 k8 b5 z9 k9 hrg hb HO HO5 el6 el7
      go_wp2_with (at_builtin; go_loud (refine wpList_slapp (elKd5 fun j => w.heap.size ≤ j) 3 40 23 46 _ Try.underlying23 infoKd rfl (by decide) (by decide) (v6.alloc (.cells (List.toArray [.slice ap am ac, .int .i64 x.page, .int .i64 x.epoch]) 46)) rfl (.tmp 14) (.tmp 18) rfl w.heap.size (.slice pa pm pc) L0 rfl HO6.out (fun j => w.heap.size ≤ j) (some ⟨v6.heap.size, 0, none⟩) 1 1 [x] rfl S6.out (by rw [hlk]; simp; omega) z6 (fun w' y vs hg hy => elKd5.keep (fun j cur f _ hh => hg.block j (Array.getElem?_eq_some_iff.1 hh).1 (fun e => OwS.not5 HO6.out neKd5 j cur f e.symm hh)) y vs hy) ?_; intro v1 w1 o1 b1; obtain ⟨a1, m1, c1, rfl, hm1⟩ := o1.shape; have kk : Below w.heap.size w w1 := k10.grown b1 z6 (fun j hj => (OwS.lt HO6.out j hj).1); have OO : Hid (OwS (elKd5 fun j => w.heap.size ≤ j) 3 46 w1 w.heap.size (.slice a1 m1 c1) (L0 ++ [x])) := o1; clear o1 b1))
      go_roundw
      case rel => exact ⟨k + 1, by omega, by go_num, ⟨a1, m1, c1, rfl, by rw [hT.out]; exact OO⟩, kk⟩
      case measure => simp [intOf]; omega
    · have i0 : ¬ (k : Int) < (n : Int) := by omega
      rw [HF.out k (by omega)] at HO
      go_wp2_with fail
      go_ret
      exact ⟨pa, pm, pc, rfl, HO.out, hb⟩

end Go.Proofs.Ytnmmopneacdgfaa

/-
  A piece of a slice of structs; pairs and kids so. No condition; no statement of the seat is proved here.
-/
namespace Go.Proofs.Ytnmmopneacdgfaa
open Go.RowKit
set_option linter.unusedVariables false

theorem rel_drop {α β : Type} {R : α → β → Prop} : ∀ {l : List α} {m : List β}, Rel2 R l m → ∀ k, Rel2 R (l.drop k) (m.drop k)
  | [], [], _, k => by simp [Rel2]
  | _ :: _, _ :: _, h, 0 => h
  | _ :: _, _ :: _, h, k + 1 => rel_drop h.2 k
  | [], _ :: _, h, _ => h.elim
  | _ :: _, [], h, _ => h.elim
theorem rel_take {α β : Type} {R : α → β → Prop} : ∀ {l : List α} {m : List β}, Rel2 R l m → ∀ (k : Nat), Rel2 R (l.take k) (m.take k)
  | [], [], _, k => by simp [Rel2]
  | _ :: _, _ :: _, h, 0 => trivial
  | _ :: _, _ :: _, h, k + 1 => ⟨h.1, rel_take h.2 k⟩
  | [], _ :: _, h, _ => h.elim
  | _ :: _, [], h, _ => h.elim
theorem flat_len {sz : Nat} : ∀ {rows : List (List Value)}, (∀ vs ∈ rows, vs.length = sz) → rows.flatten.length = rows.length * sz
  | [], _ => by simp
  | r :: rows, h => by
    rw [List.flatten_cons, List.length_append, h r (by simp), flat_len fun v hv => h v (by simp [hv]), List.length_cons, Nat.succ_mul, Nat.add_comm]
/-- Where the piece lies. -/
def cutA (a : Option Addr) (c i sz : Nat) : Option Addr := if c = i then a else a.map (·.add (i * sz))
theorem Sl.cut {α : Type} {el : World → α → List Value → Prop} {sz : Nat} {A : Nat → Prop} {w : World} {a : Option Addr} {n c : Nat} {l : List α} (h : Sl el sz A w a n c l) {i j : Nat} (hij : i ≤ j) (hj : j ≤ n) : Sl el sz A w (cutA a c i sz) (j - i) (c - i) ((l.drop i).take (j - i)) := by
  obtain ⟨rows, hr, hl, hn, hm, h0, hb⟩ := h
  have hrl := hr.len
  refine ⟨(rows.drop i).take (j - i), rel_take (rel_drop hr i) _, by simp; omega, by omega, by omega, ?_, ?_⟩
  · intro e
    unfold cutA at e
    split at e
    · omega
    · have := h0 (by cases a with
        | none => rfl
        | some x => simp at e)
      omega
  · intro hp
    obtain ⟨b, o, rfl, hlt, hA, hrg⟩ := hb (by omega)
    refine ⟨b, o + i * sz, ?_, hlt, hA, ?_⟩
    · unfold cutA
      rw [if_neg (by omega)]
      simp [Addr.add]
    · intro k v hk
      have e : rows.flatten = (rows.take i).flatten ++ (((rows.drop i).take (j - i)).flatten ++ ((rows.drop i).drop (j - i)).flatten) := by
        rw [← List.flatten_append, List.take_append_drop, ← List.flatten_append, List.take_append_drop]
      have hti : (rows.take i).flatten.length = i * sz := by
        rw [flat_len (sz := sz) fun v hv => rel_lens hr v (List.mem_of_mem_take hv), List.length_take, Nat.min_eq_left (by omega)]
      have hkl : k < ((rows.drop i).take (j - i)).flatten.length := (List.getElem?_eq_some_iff.1 hk).1
      have := hrg (i * sz + k) v (by
        rw [e, List.getElem?_append_right (by omega), hti, show i * sz + k - i * sz = k from by omega, List.getElem?_append_left hkl]
        exact hk)
      rwa [← Nat.add_assoc] at this
theorem cutA_zero (a : Option Addr) (c sz : Nat) : cutA a c 0 sz = a := by
  unfold cutA
  split
  · rfl
  · cases a with
    | none => rfl
    | some x => simp [Addr.add]
theorem sizeOfPr (w : World) : Sem.run Try.prog (sizeOf (Try.prog.elem 22)) w = .ok 2 w := by kernel_rfl
theorem underPr : Try.prog.underlying 22 = some (.slice (Try.prog.elem 22)) := by kernel_rfl
theorem sizeOfKd (w : World) : Sem.run Try.prog (sizeOf (Try.prog.elem 23)) w = .ok 3 w := by kernel_rfl
theorem underKd : Try.prog.underlying 23 = some (.slice (Try.prog.elem 23)) := by kernel_rfl
theorem cutHiP {a : Option Addr} {n c i : Nat} (hi : i ≤ n) (hc : n ≤ c) (w : World) : Sem.run Try.prog (Instr.slice 22 (.slice a n c) none (some (.int .i64 (i : Int))) none) w = .ok (.slice a i c) w := by
  rw [run_slice_h w 22 _ n c underPr .i64 (i : Int) (by omega) (by omega), sizeOfPr]
  simp only [Result.andThen, sliced, Int.toNat_natCast, Nat.sub_zero]
  rw [show (if c = 0 then a else a.map (·.add (0 * 2))) = a from cutA_zero a c 2]
theorem cutLoP {a : Option Addr} {n c i : Nat} (hi : i ≤ n) (hc : n ≤ c) (w : World) : Sem.run Try.prog (Instr.slice 22 (.slice a n c) (some (.int .i64 (i : Int))) none none) w = .ok (.slice (cutA a c i 2) (n - i) (c - i)) w := by
  rw [run_slice_l w 22 _ n c underPr .i64 (i : Int) (by omega) (by omega), sizeOfPr]
  simp only [Result.andThen, sliced, Int.toNat_natCast]
  rfl
theorem cutHiK {a : Option Addr} {n c i : Nat} (hi : i ≤ n) (hc : n ≤ c) (w : World) : Sem.run Try.prog (Instr.slice 23 (.slice a n c) none (some (.int .i64 (i : Int))) none) w = .ok (.slice a i c) w := by
  rw [run_slice_h w 23 _ n c underKd .i64 (i : Int) (by omega) (by omega), sizeOfKd]
  simp only [Result.andThen, sliced, Int.toNat_natCast, Nat.sub_zero]
  rw [show (if c = 0 then a else a.map (·.add (0 * 3))) = a from cutA_zero a c 3]
theorem cutLoK {a : Option Addr} {n c i : Nat} (hi : i ≤ n) (hc : n ≤ c) (w : World) : Sem.run Try.prog (Instr.slice 23 (.slice a n c) (some (.int .i64 (i : Int))) none none) w = .ok (.slice (cutA a c i 3) (n - i) (c - i)) w := by
  rw [run_slice_l w 23 _ n c underKd .i64 (i : Int) (by omega) (by omega), sizeOfKd]
  simp only [Result.andThen, sliced, Int.toNat_natCast]
  rfl
/-- The first ones, and the rest. -/
theorem Sl.hi {α : Type} {el : World → α → List Value → Prop} {sz : Nat} {A : Nat → Prop} {w : World} {a : Option Addr} {n c : Nat} {l : List α} (h : Sl el sz A w a n c l) {i : Nat} (hi : i ≤ n) : Sl el sz A w a i c (l.take i) := by
  have := h.cut (i := 0) (j := i) (Nat.zero_le _) hi
  rwa [cutA_zero, List.drop_zero, Nat.sub_zero, Nat.sub_zero] at this
theorem Sl.lo {α : Type} {el : World → α → List Value → Prop} {sz : Nat} {A : Nat → Prop} {w : World} {a : Option Addr} {n c : Nat} {l : List α} (h : Sl el sz A w a n c l) {i : Nat} (hi : i ≤ n) : Sl el sz A w (cutA a c i sz) (n - i) (c - i) (l.drop i) := by
  have hl := h.len
  have := h.cut (i := i) (j := n) hi (Nat.le_refl _)
  rwa [List.take_of_length_le (by simp; omega)] at this

end Go.Proofs.Ytnmmopneacdgfaa

/-
  Regions that draw their order: several operations that answer new memory, and some that only reckon with what others answered, in any order that the region allows. No condition; no statement of the seat is proved here.
-/
namespace Go.Proofs.Ytnmmopneacdgfaa
open Go.RowKit
set_option linter.unusedVariables false

abbrev updU (u : Nat → Value) (i : Nat) (v : Value) : Nat → Value := fun j => if j = i then v else u j
/-- Whatever of R has come, something may come up; it is of the rest of R, and what it reckons with has come. -/
def freeP (md : Region.Mode) (ops : Array Oper) (deps : Nat → List Nat) : Nat → Array Bool → List Nat → Bool
  | 0, _, _ => true
  | n + 1, listed, R => !(Region.ready md ops listed).isEmpty && (Region.ready md ops listed).all (fun i => R.contains i && ((deps i).all (fun j => !R.contains j) && freeP md ops deps n (listed.setIfInBounds i true) (R.erase i)))
theorem bothP' {P : Program} {ops : Array Oper} {Q : Exit → Act → World → Prop} {md : Region.Mode} {S : World → Prop} (d : Nat → Tmp) (A : Nat → Value → World → Prop) (F : (Nat → Value) → Act) (L pure : List Nat) (deps : Nat → List Nat) (val : Nat → (Nat → Value) → Value)
    (sA : ∀ i v w w', A i v w → Grows w w' → A i v w') (hput : ∀ i ∈ L, ∀ u v, (F u).put (some (d i)) v = F (updU u i v)) (hmk : ∀ i ∈ L, i ∉ pure → ∀ u, Mk P ops Q S i (d i) (A i) (F u))
    (hpu : ∀ i ∈ L, i ∈ pure → ∀ u, (∀ j ∈ deps i, ∃ w, A j (u j) w) → Mk P ops Q S i (d i) (fun v _ => v = val i u) (F u))
    (hval : ∀ i ∈ pure, ∀ u j v, j ∉ deps i → val i (updU u j v) = val i u) (hdp : ∀ i ∈ pure, i ∉ deps i ∧ ∀ j ∈ deps i, j ∈ L ∧ j ∉ pure) (hpL : ∀ i ∈ pure, i ∈ L) {fuel : Nat} :
    ∀ (n : Nat) (R : List Nat) (listed : Array Bool) (u : Nat → Value) (w : World), R.length = n → (∀ i ∈ R, i ∈ L) → R.Nodup → freeP md ops deps n listed R = true → (∀ i ∈ L, i ∉ pure → i ∉ R → A i (u i) w) → (∀ i ∈ pure, i ∉ R → u i = val i u ∧ ∀ j ∈ deps i, j ∉ R) → S w →
      (∀ u' w', (∀ i ∈ L, i ∉ pure → A i (u' i) w') → (∀ i ∈ pure, u' i = val i u') → Grows w w' → S w' → wpAnyG P md ops Q S fuel (setAll listed R) (F u') w') → wpAnyG P md ops Q S (fuel + n) listed (F u) w
  | 0, R, listed, u, w, hn, hR, hd, hf, hA, hB, hS, h => by
    obtain rfl := List.length_eq_zero_iff.1 hn
    exact h u w (fun i hi hp => hA i hi hp (by simp)) (fun i hi => (hB i hi (by simp)).1) (Grows.refl w) hS
  | n + 1, R, listed, u, w, hn, hR, hd, hf, hA, hB, hS, h => by
    unfold freeP at hf
    rw [Bool.and_eq_true] at hf
    have hne : Region.ready md ops listed ≠ [] := fun e => by rw [e] at hf; exact absurd hf.1 (by decide)
    refine manyG (fuel := fuel + n) (Region.ready md ops listed) rfl hne fun i hir w' hg hs => ?_
    have hfi := List.all_eq_true.1 hf.2 i hir
    rw [Bool.and_eq_true, Bool.and_eq_true] at hfi
    have hi : i ∈ R := by simpa using hfi.1
    have hdi : ∀ j ∈ deps i, j ∉ R := fun j hj => by
      have := List.all_eq_true.1 hfi.2.1 j hj
      simpa using this
    have hne' : ∀ j, j ∈ R → j ≠ i → j ∈ R.erase i := fun j hj e => (List.mem_erase_of_ne e).2 hj
    have hother : ∀ j, j ∉ R.erase i → j ≠ i → j ∉ R := fun j hj e hm => hj (hne' j hm e)
    have go : ∀ v w'', (i ∉ pure → A i v w'') → (i ∈ pure → v = val i u) → Grows w' w'' → S w'' → wpAnyG P md ops Q S (fuel + n) (listed.setIfInBounds i true) ((F u).put (some (d i)) v) w'' := fun v w'' hv1 hv2 hg' hs' => by
      rw [hput i (hR i hi) u v]
      refine bothP' d A F L pure deps val sA hput hmk hpu hval hdp hpL n (R.erase i) _ _ w'' (by rw [List.length_erase_of_mem hi]; omega) (fun j hj => hR j (List.mem_of_mem_erase hj)) (hd.erase i) hfi.2.2 (fun j hj hjp hjr => ?_) (fun j hj hjr => ?_) hs' (fun u' w3 hA' hB' hg3 hs3 => ?_)
      · by_cases e : j = i
        · subst e
          simpa [updU] using hv1 hjp
        · show A j (if j = i then v else u j) w''
          rw [if_neg e]
          exact sA _ _ _ _ (hA j hj hjp (hother j hjr e)) (Grows.trans hg hg')
      · by_cases e : j = i
        · subst e
          refine ⟨?_, fun k hk hm => hdi k hk (List.mem_of_mem_erase hm)⟩
          rw [hval j hj u j v (hdp j hj).1]
          simpa [updU] using hv2 hj
        · obtain ⟨h1, h2⟩ := hB j hj (hother j hjr e)
          refine ⟨?_, fun k hk hm => h2 k hk (List.mem_of_mem_erase hm)⟩
          rw [hval j hj u i v (fun hk => h2 i hk hi)]
          show (if j = i then v else u j) = _
          rw [if_neg e]
          exact h1
      · rw [setAll_erase _ hi]
        exact h u' w3 hA' hB' (Grows.trans (Grows.trans hg hg') hg3) hs3
    by_cases hp : i ∈ pure
    · refine hpu i (hR i hi) hp u (fun j hj => ⟨w, hA j ((hdp i hp).2 j hj).1 ((hdp i hp).2 j hj).2 (hdi j hj)⟩) _ w' hs fun v w'' hv hg' hs' => ⟨hs', ?_⟩
      exact go v w'' (fun hh => absurd hp hh) (fun _ => hv) hg' hs'
    · refine hmk i (hR i hi) hp u _ w' hs fun v w'' hv hg' hs' => ⟨hs', ?_⟩
      exact go v w'' (fun _ => hv) (fun hh => absurd hh hp) hg' hs'
theorem bothP {P : Program} {ops : Array Oper} {Q : Exit → Act → World → Prop} {md : Region.Mode} {S : World → Prop} (d : Nat → Tmp) (A : Nat → Value → World → Prop) (F : (Nat → Value) → Act) (u0 : Nat → Value) (L pure : List Nat) (deps : Nat → List Nat) (val : Nat → (Nat → Value) → Value) (hnd : L.Nodup) {fuel : Nat} (n : Nat) (hn : L.length = n + 1) {listed : Array Bool} {w : World}
    (sA : ∀ i v w w', A i v w → Grows w w' → A i v w') (hput : ∀ i ∈ L, ∀ u v, (F u).put (some (d i)) v = F (updU u i v)) (hmk : ∀ i ∈ L, i ∉ pure → ∀ u, Mk P ops Q S i (d i) (A i) (F u))
    (hpu : ∀ i ∈ L, i ∈ pure → ∀ u, (∀ j ∈ deps i, ∃ w, A j (u j) w) → Mk P ops Q S i (d i) (fun v _ => v = val i u) (F u))
    (hval : ∀ i ∈ pure, ∀ u j v, j ∉ deps i → val i (updU u j v) = val i u) (hdp : ∀ i ∈ pure, i ∉ deps i ∧ ∀ j ∈ deps i, j ∈ L ∧ j ∉ pure) (hpL : ∀ i ∈ pure, i ∈ L)
    (hf : freeP md ops deps (n + 1) listed L = true)
    (h : ∀ u' w', (∀ i ∈ L, i ∉ pure → A i (u' i) w') → (∀ i ∈ pure, u' i = val i u') → Grows w w' → S w' → wpAnyG P md ops Q S fuel (setAll listed L) (F u') w') : wpAnyG P md ops Q S (fuel + n + 1) listed (F u0) w := by
  intro w' hg hs
  exact bothP' d A F L pure deps val sA hput hmk hpu hval hdp hpL (n + 1) L listed u0 w' hn (fun i hi => hi) hnd hf (fun i hi _ hni => absurd hi hni) (fun i hi hni => absurd (hpL i hi) hni) hs (fun u' w3 hA' hB' hg3 hs3 => h u' w3 hA' hB' (hg.trans hg3) hs3) w' (Grows.refl w') hs
/-- What only reckons, so. -/
theorem mkPlain {P : Program} {ops : Array Oper} {Q : Exit → Act → World → Prop} {S : World → Prop} {i : Nat} {d : Tmp} {v : Value} {oi : Oper} {a : Act} (hi : ops[i]? = some oi) (hd : oi.dst = some d) (hw : Region.wanted oi (yielded ops a.tmps) = true) (h : ∀ w, S w → (execOp a.eval oi).run P w = .ok (.value v) w) : Mk P ops Q S i d (fun x _ => x = v) a := by
  intro K w hs k
  unfold wpOp
  simp only [hi]
  rw [if_pos hw]
  left
  unfold Oper.wp
  rw [h w hs, Oper.upon_value, hd]
  exact k v w rfl (Grows.refl w) hs

end Go.Proofs.Ytnmmopneacdgfaa
