/-
  The contracts of the reference's Pack and SameAll, and of Short. Conditions: of Pack as of the program's; of the others none.
-/
import Derived.Test.YtabokdffhomhiaaParts
namespace Go.Proofs.Ytabokdffhomhiaa
open Go.RowKit

set_option maxHeartbeats 400000 in
theorem rPack (w : World) {a : Option Addr} {n c : Nat} {ls : List (List UInt8)} (ha : Bss w a n c ls) (hz : tot ls ≤ 100000) (hn : n ≤ 100000) :
    Calls Try.prog 18 #[.slice a n c] w (Gives w (packL ls)) := by
  by_cases h0 : n = 0
  · subst h0
    have e : ls = [] := List.length_eq_zero_iff.1 ha.len
    subst e
    clear ha
    go_enter Try.func18, Try.ntmps18
    go_wp2_with fail
    refine wp_loop_rounds 1 ?_; rw [rounds_succ]; go_wp2
    go_ret
    exact Gives.mk (Own.nil _ _) (Below.refl _ _)
  · obtain ⟨x, o, rfl, hx, hc⟩ := ha.at (by omega)
    have H : Hid (ls.length = n) := ha.len
    clear ha
    go_enter Try.func18, Try.ntmps18
    go_wp2_with fail
    go_loopw [3, 4] (fun v i wr => ∃ k : Nat, k ≤ n ∧ i = .int .i64 k ∧ Own wr w.heap.size v (packL (ls.take k)) ∧ Below w.heap.size w wr) (fun _ i _ => n - (intOf i).toNat)
    case atStart => exact ⟨0, Nat.zero_le _, rfl, Own.nil _ _, Below.refl _ _⟩
    case round =>
      obtain ⟨k, hk, rfl, ho, hb⟩ := hrel
      by_cases hlt : k < n
      · obtain ⟨p, m, q, c1, hp⟩ := Bss.part hc hb k hlt
        obtain ⟨r0, r1, r2⟩ := pack_room (by rw [H.out]; exact hlt) hp.len hz (by rw [H.out]; exact hn)
        have hs := hb.size
        have HS : Hid (packL (ls.take k) ++ putL m 4 ++ ls.getD k [] = packL (ls.take (k + 1))) := pack_step (by rw [H.out]; exact hlt) hp.len
        have hP := rPut 4 (m : Int) 4 wr (by omega) (by omega) (by omega) (by omega) (by omega)
        rw [Int.toNat_natCast, show (4 : Int).toNat = 4 from rfl] at hP
        have HP : Hid (Calls Try.prog 11 #[.int .u64 (m : Int), .int .i64 4] wr (Gives wr (putL m 4))) := hP
        clear hP
        have hC : ∀ w1, Below wr.heap.size wr w1 → ∀ w2, Below w.heap.size w1 w2 → w2.cell? ⟨x, o + k, none⟩ = some (.slice p m q) := fun w1 h1 w2 h2 => by
          rw [h2.cell (p := ⟨x, o + k, none⟩) hx, h1.cell (p := ⟨x, o + k, none⟩) (by simp; omega)]; exact c1
        have HC : Hid (∀ w1, Below wr.heap.size wr w1 → ∀ w2, Below w.heap.size w1 w2 → w2.cell? ⟨x, o + k, none⟩ = some (.slice p m q)) := hC
        clear hC
        go_wp2_with (first | (go_at_call 11; refine HP.out.mono ?_; rintro e w1 ⟨a1, m1, c1', rfl, ho1, hb1⟩) | (at_builtin; refine wpList_app _ rfl (.tmp 11) (.tmp 18) rfl w.heap.size _ _ rfl (ho.below hb1 (Nat.le_refl _)) _ _ _ _ rfl ho1.toBs r1 (Nat.le_trans hs hb1.size) ?_; intro v2 w2 ho2 hb2; have c2 := HC.out w1 hb1 w2 hb2) | (at_builtin; refine wpList_app _ rfl (.tmp 20) (.tmp 24) rfl w.heap.size _ _ rfl ho2 _ _ _ _ rfl (hp.below (hb.trans ((hb1.mono hs).trans hb2)) (Nat.le_refl _)) r2 (Nat.le_trans (Nat.le_trans hs hb1.size) hb2.size) ?_; intro v3 w3 ho3 hb3))
        go_roundw
        case rel => exact ⟨k + 1, by omega, by go_num, by rw [← HS.out]; exact ho3, hb.trans (((hb1.mono hs).trans hb2).trans hb3)⟩
        case measure => simp [intOf]; omega
      · go_wp2
        go_ret
        exact Gives.mk (pack_end H hlt ho) hb

set_option maxHeartbeats 400000 in
theorem lShort (w : World) {a : Option Addr} {n c : Nat} {ls : List (List UInt8)} (ha : Bss w a n c ls) :
    Calls Try.prog 14 #[.slice a n c] w fun e w' => ∃ r : Int, e = .returned (.int .i64 r) ∧ w = w' ∧ (r = 1 ∨ r = 0 ∧ n ≤ 40 ∧ tot ls ≤ 6000) := by
  have h1 := ha.max
  by_cases h40 : n ≤ 40
  · by_cases h0 : n = 0
    · subst h0
      have e : ls = [] := List.length_eq_zero_iff.1 ha.len
      subst e
      clear ha
      go_enter Try.func14, Try.ntmps14
      go_wp2
      refine wp_loop_rounds 1 ?_; rw [rounds_succ]; go_wp2
      go_ret
      exact ⟨0, rfl, rfl, Or.inr ⟨rfl, by omega, by simp [tot]⟩⟩
    · obtain ⟨x, o, rfl, hx, hc⟩ := ha.at (by omega)
      have H : Hid (ls.length = n) := ha.len
      clear ha
      go_enter Try.func14, Try.ntmps14
      go_wp2
      go_loop [3, 4] (fun t i => ∃ k : Nat, k ≤ n ∧ i = .int .i64 k ∧ t = .int .i64 (tot (ls.take k) : Nat) ∧ tot (ls.take k) ≤ 6000) (fun _ i => n - (intOf i).toNat)
      case atStart => exact ⟨0, Nat.zero_le _, rfl, rfl, by simp [tot]⟩
      case round =>
        obtain ⟨k, hk, rfl, rfl, h6⟩ := hrel
        by_cases hlt : k < n
        · obtain ⟨p, m, q, c1, hb⟩ := hc k hlt
          have b1 := tot_step (by rw [H.out]; exact hlt) hb.len
          have B1 : Hid ((tot (ls.take k) : Int) + (m : Int) = (tot (ls.take (k + 1)) : Nat)) := b1
          clear hc b1 hb
          by_cases h3 : m ≤ 3000
          · by_cases h7 : (tot (ls.take k) : Int) + (m : Int) ≤ 6000
            · go_wp2
              go_round
              case rel => exact ⟨k + 1, by omega, by go_num, by rw [B1.out], by have := B1.out; omega⟩
              case measure => simp [intOf]; omega
            · go_wp2
              go_ret
              exact ⟨1, rfl, rfl, Or.inl rfl⟩
          · go_wp2
            go_ret
            exact ⟨1, rfl, rfl, Or.inl rfl⟩
        · go_wp2
          go_ret
          rw [List.take_of_length_le (by rw [H.out]; omega)] at h6
          exact ⟨0, rfl, rfl, by omega⟩
  · clear ha
    go_enter Try.func14, Try.ntmps14
    go_wp2
    go_ret
    exact ⟨1, rfl, rfl, Or.inl rfl⟩
theorem parts_inj {l m : List (List UInt8)} {n k : Nat} (H : Hid (l.length = n ∧ m.length = n)) (h : ¬ k < n) (hj : ∀ j, j < k → l.getD j [] = m.getD j []) : true = decide (l = m) := by
  symm
  rw [decide_eq_true_iff]
  obtain ⟨h1, h2⟩ := H.out
  apply List.ext_getElem (by omega)
  intro i h3 h4
  have := hj i (by omega)
  simpa [List.getD_eq_getElem?_getD, h3, h4] using this
theorem parts_no {l m : List (List UInt8)} {k : Nat} (h : ¬ l.getD k [] = m.getD k []) : false = decide (l = m) := by
  symm
  rw [decide_eq_false_iff_not]
  intro e
  subst e
  exact h rfl
theorem parts_step {l m : List (List UInt8)} {k : Nat} (H : Hid (∀ j, j < k → l.getD j [] = m.getD j [])) (h : l.getD k [] = m.getD k []) (j : Nat) (hj : j < k + 1) : l.getD j [] = m.getD j [] := by
  by_cases e : j = k
  · subst e; exact h
  · exact H.out j (by omega)
theorem Bs.drewN {w : World} {a : Option Addr} {n c : Nat} {l : List UInt8} (h : Bs w a n c l) (d : Nat) : Bs (w.drewN d) a n c l := h
theorem below_drewN' (w : World) (d : Nat) : Below w.heap.size w (w.drewN d) := ⟨rfl, rfl, rfl, Nat.le_refl _, fun _ _ => rfl⟩

set_option maxHeartbeats 400000 in
theorem rSameAll (w : World) {a b : Option Addr} {n c n' c' : Nat} {l m : List (List UInt8)} (ha : Bss w a n c l) (hb : Bss w b n' c' m) :
    Calls Try.prog 20 #[.slice a n c, .slice b n' c'] w fun e w' => e = .returned (.bool (decide (l = m))) ∧ ∃ k, w' = w.drewN k := by
  have h1 := ha.max
  have h2 := hb.max
  by_cases hn : n = n'
  · subst hn
    by_cases h0 : n = 0
    · subst h0
      have e : decide (l = m) = true := by
        have e1 := ha.len
        have e2 := hb.len
        simp at e1 e2
        simp [e1, e2]
      rw [e]
      clear e ha hb
      go_enter Try.func20, Try.ntmps20
      go_wp2_with fail
      refine wp_loop_rounds 1 ?_; rw [rounds_succ]; go_wp2_with fail
      go_ret
      exact ⟨rfl, 0, rfl⟩
    · obtain ⟨x, o, rfl, hx, hc⟩ := ha.at (by omega)
      obtain ⟨y, q, rfl, hy, hd⟩ := hb.at (by omega)
      have e1 := ha.len
      have e2 := hb.len
      have H : Hid (l.length = n ∧ m.length = n) := ⟨e1, e2⟩
      clear e1 e2 ha hb
      go_enter Try.func20, Try.ntmps20
      go_wp2_with fail
      go_loopw [5] (fun i wr => ∃ k : Nat, k ≤ n ∧ i = .int .i64 k ∧ (∃ d, wr = w.drewN d) ∧ ∀ j, j < k → l.getD j [] = m.getD j []) (fun i _ => n - (intOf i).toNat)
      case atStart => exact ⟨0, Nat.zero_le _, rfl, ⟨0, rfl⟩, fun j hj => by omega⟩
      case round =>
        obtain ⟨k, hk, rfl, ⟨d, hwr⟩, hj⟩ := hrel
        by_cases hlt : k < n
        · obtain ⟨p1, m1, q1, c1, hp1⟩ := hc k hlt
          obtain ⟨p2, m2, q2, c2, hp2⟩ := hd k hlt
          have H2 : Hid (∀ j, j < k → l.getD j [] = m.getD j []) := hj
          have c1 : wr.cell? ⟨x, o + k, none⟩ = some (.slice p1 m1 q1) := by rw [hwr]; exact c1
          have c2 : wr.cell? ⟨y, q + k, none⟩ = some (.slice p2 m2 q2) := by rw [hwr]; exact c2
          have hp1 : Bs wr p1 m1 q1 (l.getD k []) := by rw [hwr]; exact hp1.drewN d
          have hp2 : Bs wr p2 m2 q2 (m.getD k []) := by rw [hwr]; exact hp2.drewN d
          have HW : Hid (wr = w.drewN d) := hwr
          clear hwr
          clear hj hc hd
          by_cases hq : l.getD k [] = m.getD k []
          · have hS : Hid (∀ d', Calls Try.prog 9 #[.slice p1 m1 q1, .slice p2 m2 q2] (wr.drewN d') fun e w' => e = .returned (.bool true) ∧ ∃ k, w' = (wr.drewN d').drewN k) := fun d' => by
              have := rSame (wr.drewN d') (hp1.drewN d') (hp2.drewN d')
              rw [show decide (l.getD k [] = m.getD k []) = true from by rw [decide_eq_true_iff]; exact hq] at this
              exact this
            have HQ : Hid (l.getD k [] = m.getD k []) := hq
            clear hq hp1 hp2
            go_wp2_with fail
            go_quiet ((go_at_call 9; exact Calls.quiet_of (hS.out _)))
            go_wp2_with fail
            go_roundw
            case rel => exact ⟨k + 1, by omega, by go_num, ⟨_, by rw [HW.out, World.drewN_drewN]⟩, fun j hj => parts_step H2 HQ.out j hj⟩
            case measure => simp [intOf]; omega
          · have hS : Hid (∀ d', Calls Try.prog 9 #[.slice p1 m1 q1, .slice p2 m2 q2] (wr.drewN d') fun e w' => e = .returned (.bool false) ∧ ∃ k, w' = (wr.drewN d').drewN k) := fun d' => by
              have := rSame (wr.drewN d') (hp1.drewN d') (hp2.drewN d')
              rw [show decide (l.getD k [] = m.getD k []) = false from by rw [decide_eq_false_iff_not]; exact hq] at this
              exact this
            have HQ : Hid (¬ l.getD k [] = m.getD k []) := hq
            clear hq hp1 hp2
            go_wp2_with fail
            go_quiet ((go_at_call 9; exact Calls.quiet_of (hS.out _)))
            go_wp2_with fail
            go_ret
            exact ⟨ret_bool (parts_no HQ.out), _, by rw [HW.out, World.drewN_drewN]⟩
        · have HW : Hid (wr = w.drewN d) := hwr
          clear hwr
          go_wp2_with fail
          go_ret
          exact ⟨ret_bool (parts_inj H hlt hj), d, HW.out⟩
  · have hq' : ((n : Int) != (n' : Int)) = true := by simp; omega
    have e : decide (l = m) = false := by
      have e1 := ha.len
      have e2 := hb.len
      simp
      intro h
      rw [h] at e1
      omega
    rw [e]
    clear e ha hb
    go_enter Try.func20, Try.ntmps20
    go_wp2_with fail
    go_ret
    exact ⟨rfl, 0, rfl⟩
end Go.Proofs.Ytabokdffhomhiaa
