/-
  Contracts of layer 15's program, on: find, set, Mark, Give, Take. Conditions: none but that the space may be, and numbers of the language.
-/
import Derived.Test.YtcmbkpdefbaakaaSpaP
namespace Go.Proofs.Ytcmbkpdefbaakaa
open Go.RowKit

/-- What a look for a run answers. -/
def findV (l : List Bool) (n : Nat) : Value := match findL l n with
  | none => .tuple #[.int .i64 0, .bool false]
  | some a => .tuple #[.int .i64 (a : Int), .bool true]
theorem findV_none {l : List Bool} {n : Nat} (h : findL l n = none) : findV l n = .tuple #[.int .i64 0, .bool false] := by
  unfold findV
  rw [h]
theorem findV_some {l : List Bool} {n a : Nat} (h : findL l n = some a) : findV l n = .tuple #[.int .i64 (a : Int), .bool true] := by
  unfold findV
  rw [h]

set_option maxRecDepth 100000 in
set_option maxHeartbeats 1000000 in
theorem oZFind (w : World) {s t : Nat} {S : SpS} (h : Sp w s t S) (n : Nat) (hn : 1 ≤ n) : Calls Try.prog 23 #[.pointer (some ⟨s, 0, none⟩), .int .i64 (n : Int)] w fun e w' => e = .returned (findV S.l n) ∧ w = w' := by
  have hl := h.lt
  have hl2 := h.lt2
  have h1 := h.ok.n2
  obtain ⟨c, c0⟩ := h.c0
  have H : Hid (∀ i, i < S.l.length → w.cell? ⟨t, i, none⟩ = some (.bool (S.l.getD i false))) := fun i hi => h.at hi
  have HS := oZSize w h
  clear h
  have HN : Hid (1 ≤ n) := hn
  have HM : Hid (∀ r, Scan S.l n S.l.length r → findL S.l n = none) := fun r hr => hr.none
  have HF : Hid (∀ k r, Scan S.l n k r → k < S.l.length → S.l.getD k false = false → r + 1 = n → findL S.l n = some (k + 1 - n)) := fun k r hr hk he hn => hr.found hk he hn
  clear hn
  generalize S.l.length = m at *
  generalize S.l = l at *
  have i9 : (m : Int) ≤ 4096 := by omega
  go_enter Try.func23, Try.ntmps23
  go_wp2_with fail
  refine HS.mono ?_
  rintro e w' ⟨rfl, rfl⟩
  clear HS
  go_wp2_with fail
  go_loop [6, 10] (fun v x => ∃ k r : Nat, k ≤ m ∧ x = .int .i64 (k : Int) ∧ v = .int .i64 (r : Int) ∧ Scan l n k r) (fun _ x => m - (intOf x).toNat)
  case atStart => exact ⟨0, 0, by omega, rfl, rfl, Scan.zero l HN.out⟩
  case round =>
    obtain ⟨k, r, hk, rfl, rfl, hsc⟩ := hrel
    have HSC : Hid (Scan l n k r) := hsc
    have hrk := hsc.rk
    clear hsc
    by_cases hlt : k < m
    · have i1 : (k : Int) < (m : Int) := by omega
      have i0 : (0 : Int) ≤ (k : Int) := by omega
      have i2 : (r : Int) ≤ 4096 := by omega
      have i3 : (0 : Int) ≤ (r : Int) := by omega
      have c1 := H.out k hlt
      cases hb : l.getD k false with
      | true =>
        rw [hb] at c1
        have HE : Hid (Scan l n (k + 1) 0) := HSC.out.taken hb
        clear hb
        go_wp2_with fail
        go_round
        case rel => exact ⟨k + 1, 0, by omega, by go_num, rfl, HE.out⟩
        case measure => simp [intOf]; omega
      | false =>
        rw [hb] at c1
        by_cases e : r + 1 = n
        · have HE : Hid (findL l n = some (k + 1 - n)) := HF.out k r HSC.out hlt hb e
          obtain ⟨x, hx⟩ : ∃ x, x = k + 1 - n := ⟨_, rfl⟩
          rw [← hx] at HE
          have j1 : (k : Int) + 1 - (n : Int) = (x : Int) := by omega
          have j2 : ((r : Int) + 1 == (n : Int)) = true := by rw [beq_iff_eq]; omega
          have j3 : (n : Int) ≤ 4097 := by omega
          have HX : Hid (x ≤ k) := by show x ≤ k; omega
          clear hb hx
          have HY : Hid (r + 1 = n) := e
          clear e
          go_wp2_with fail
          exact bodyPost_ret (v := .tuple #[.int .i64 (x : Int), .bool true]) (by simp [results, Try.results23, go_sem]) rfl ⟨by rw [findV_some HE.out], rfl⟩
        · have HE : Hid (Scan l n (k + 1) (r + 1)) := HSC.out.free hb e
          have j2 : ((r : Int) + 1 == (n : Int)) = false := by rw [beq_eq_false_iff_ne]; omega
          clear hb e
          go_wp2_with fail
          go_round
          case rel => exact ⟨k + 1, r + 1, by omega, by go_num, by go_num, HE.out⟩
          case measure => simp [intOf]; omega
    · obtain rfl : k = m := by omega
      have i1 : ¬ (k : Int) < (k : Int) := by omega
      have HE : Hid (findL l n = none) := HM.out r HSC.out
      go_wp2
      exact bodyPost_ret (v := .tuple #[.int .i64 0, .bool false]) (by simp [results, Try.results23, go_sem]) rfl ⟨by rw [findV_none HE.out], rfl⟩

set_option maxRecDepth 100000 in
set_option maxHeartbeats 1000000 in
theorem oZSet (w : World) {s t : Nat} {S : SpS} (h : Sp w s t S) (a n : Nat) (b : Bool) (han : a + n ≤ S.l.length) : Calls Try.prog 20 #[.pointer (some ⟨s, 0, none⟩), .int .i64 (a : Int), .int .i64 (n : Int), .bool b] w fun e w' => e = .returned (.tuple #[]) ∧ Sp w' s t ⟨S.first, putB S.l a n b⟩ ∧ Kp (fun j => j = t) w w' := by
  obtain ⟨f, l⟩ := S
  dsimp only at han ⊢
  have h2 := h.ok.n2
  dsimp only at h2
  have HL : Hid (a + n ≤ l.length) := han
  have H : Hid (Sp w s t ⟨f, l⟩) := h
  clear h han
  go_enter Try.func20, Try.ntmps20
  go_wp2_with fail
  go_loopw [10] (fun x wr => ∃ k : Nat, k ≤ n ∧ x = .int .i64 (k : Int) ∧ Sp wr s t ⟨f, putB l a k b⟩ ∧ Kp (fun j => j = t) w wr) (fun x _ => n - (intOf x).toNat)
  case atStart => exact ⟨0, by omega, rfl, by rw [putB_zero]; exact H.out, Kp.refl _ _⟩
  case round =>
    obtain ⟨k, hk, rfl, hS, hK⟩ := hrel
    have HS : Hid (Sp wr s t ⟨f, putB l a k b⟩) := hS
    have HK : Hid (Kp (fun j => j = t) w wr) := hK
    clear hK
    by_cases hlt : k < n
    · have i1 : (k : Int) < (n : Int) := by omega
      have hl := hS.lt
      have hl2 := hS.lt2
      have := HL.out
      obtain ⟨c, c0⟩ := hS.c0
      obtain ⟨j, hj⟩ : ∃ j, j = a + k := ⟨_, rfl⟩
      have HE : Hid ((putB l a k b).set j b = putB l a (k + 1) b) := by show _ = _; rw [hj, putB_succ]
      dsimp only at c0
      rw [putB_length] at c0
      have j1 : (a : Int) + (k : Int) = (j : Int) := by omega
      have j2 : (j : Int) < (l.length : Int) := by omega
      have j0 : (0 : Int) ≤ (j : Int) := by omega
      have j4 : j < (putB l a k b).length := by rw [putB_length]; omega
      have c1 := hS.at (i := j) j4
      have z1 := hS.unf j
      have HP := hS.put (i := j) j4 b
      dsimp only at HP
      rw [HE.out] at HP
      have HP' : Hid (Sp (wr.setCell ⟨t, j, none⟩ (.bool b)) s t ⟨f, putB l a (k + 1) b⟩) := HP
      have j3 : (l.length : Int) ≤ 4096 := by omega
      clear hj this HP hS j4
      generalize (SpS.mk f (putB l a k b)).l.getD j false = x at *
      generalize l.length = m at *
      go_wp2_with fail
      go_roundw
      case rel => exact ⟨k + 1, by omega, by go_num, HP'.out, HK.out.trans (Kp.setC (F := fun j => j = t) rfl j _)⟩
      case measure => simp [intOf]; omega
    · obtain rfl : k = n := by omega
      have i1 : ¬ (k : Int) < (k : Int) := by omega
      clear hS
      go_wp2
      go_end0
      exact ⟨rfl, HS.out, HK.out⟩

set_option maxRecDepth 100000 in
set_option maxHeartbeats 1000000 in
theorem oZMark (w : World) {s t : Nat} {S : SpS} (h : Sp w s t S) (a n : Int) (hn : n ≤ 9223372036854775807) : Calls Try.prog 14 #[.pointer (some ⟨s, 0, none⟩), .int .i64 a, .int .i64 n] w fun e w' => e = .returned (.int .i64 (S.mark a n).2) ∧ Sp w' s t (S.mark a n).1 ∧ Kp (fun j => j = t) w w' := by
  unfold SpS.mark
  have HH := oZHas w h a n hn
  by_cases hh : S.has a n
  · obtain ⟨x, m, rfl, rfl, h1, h2, h3⟩ := SpS.has_nat hh
    rw [SpS.run_in hh]
    rw [decide_eq_true hh] at HH
    have HA := oZAll w h x m false h3
    have HS := oZSet w h x m true h3
    rw [show (!true) = false from rfl]
    have H : Hid (Sp w s t S) := h
    clear h hh hn
    cases e : allB S.l x m false with
    | true =>
      rw [if_pos rfl]
      rw [e] at HA
      clear e
      go_enter Try.func14, Try.ntmps14
      go_wp2_with fail
      refine HH.mono ?_
      rintro e w' ⟨rfl, rfl⟩
      clear HH
      go_wp2_with fail
      refine HA.mono ?_
      rintro e w' ⟨rfl, rfl⟩
      clear HA
      go_wp2_with fail
      refine HS.mono ?_
      rintro e w' ⟨rfl, hS, hK⟩
      clear HS
      go_wp2_with fail
      go_ret
      exact ⟨rfl, hS, hK⟩
    | false =>
      rw [if_neg (by decide)]
      rw [e] at HA
      clear e HS
      go_enter Try.func14, Try.ntmps14
      go_wp2_with fail
      refine HH.mono ?_
      rintro e w' ⟨rfl, rfl⟩
      clear HH
      go_wp2_with fail
      refine HA.mono ?_
      rintro e w' ⟨rfl, rfl⟩
      clear HA
      go_wp2_with fail
      go_ret
      exact ⟨rfl, H.out, Kp.refl _ _⟩
  · rw [SpS.run_not hh]
    rw [decide_eq_false hh] at HH
    have H : Hid (Sp w s t S) := h
    clear h hh hn
    go_enter Try.func14, Try.ntmps14
    go_wp2_with fail
    refine HH.mono ?_
    rintro e w' ⟨rfl, rfl⟩
    clear HH
    go_wp2_with fail
    go_ret
    exact ⟨rfl, H.out, Kp.refl _ _⟩

set_option maxRecDepth 100000 in
set_option maxHeartbeats 1000000 in
theorem oZGive (w : World) {s t : Nat} {S : SpS} (h : Sp w s t S) (a n : Int) (hn : n ≤ 9223372036854775807) : Calls Try.prog 16 #[.pointer (some ⟨s, 0, none⟩), .int .i64 a, .int .i64 n] w fun e w' => e = .returned (.int .i64 (S.give a n).2) ∧ Sp w' s t (S.give a n).1 ∧ Kp (fun j => j = t) w w' := by
  unfold SpS.give
  have HH := oZHas w h a n hn
  by_cases hh : S.has a n
  · obtain ⟨x, m, rfl, rfl, h1, h2, h3⟩ := SpS.has_nat hh
    rw [SpS.run_in hh]
    rw [decide_eq_true hh] at HH
    have HA := oZAll w h x m true h3
    have HS := oZSet w h x m false h3
    rw [show (!false) = true from rfl]
    have H : Hid (Sp w s t S) := h
    clear h hh hn
    cases e : allB S.l x m true with
    | true =>
      rw [if_pos rfl]
      rw [e] at HA
      clear e
      go_enter Try.func16, Try.ntmps16
      go_wp2_with fail
      refine HH.mono ?_
      rintro e w' ⟨rfl, rfl⟩
      clear HH
      go_wp2_with fail
      refine HA.mono ?_
      rintro e w' ⟨rfl, rfl⟩
      clear HA
      go_wp2_with fail
      refine HS.mono ?_
      rintro e w' ⟨rfl, hS, hK⟩
      clear HS
      go_wp2_with fail
      go_ret
      exact ⟨rfl, hS, hK⟩
    | false =>
      rw [if_neg (by decide)]
      rw [e] at HA
      clear e HS
      go_enter Try.func16, Try.ntmps16
      go_wp2_with fail
      refine HH.mono ?_
      rintro e w' ⟨rfl, rfl⟩
      clear HH
      go_wp2_with fail
      refine HA.mono ?_
      rintro e w' ⟨rfl, rfl⟩
      clear HA
      go_wp2_with fail
      go_ret
      exact ⟨rfl, H.out, Kp.refl _ _⟩
  · rw [SpS.run_not hh]
    rw [decide_eq_false hh] at HH
    have H : Hid (Sp w s t S) := h
    clear h hh hn
    go_enter Try.func16, Try.ntmps16
    go_wp2_with fail
    refine HH.mono ?_
    rintro e w' ⟨rfl, rfl⟩
    clear HH
    go_wp2_with fail
    go_ret
    exact ⟨rfl, H.out, Kp.refl _ _⟩

set_option maxRecDepth 100000 in
set_option maxHeartbeats 1000000 in
theorem oZTake (w : World) {s t : Nat} {S : SpS} (h : Sp w s t S) (n : Int) : Calls Try.prog 12 #[.pointer (some ⟨s, 0, none⟩), .int .i64 n] w fun e w' => e = .returned (.tuple #[.int .i64 (S.take n).2.1, .int .i64 (S.take n).2.2]) ∧ Sp w' s t (S.take n).1 ∧ Kp (fun j => j = t) w w' := by
  by_cases i0 : n < 1
  · rw [SpS.take_low i0]
    have H : Hid (Sp w s t S) := h
    clear h
    go_enter Try.func12, Try.ntmps12
    go_wp2_with fail
    exact bodyPost_ret (v := .tuple #[.int .i64 0, .int .i64 1]) (by simp [results, Try.results12, go_sem]) rfl ⟨rfl, H.out, Kp.refl _ _⟩
  · obtain ⟨m, rfl⟩ : ∃ m : Nat, n = (m : Int) := ⟨n.toNat, by omega⟩
    have HF := oZFind w h m (by omega)
    have hm : 1 ≤ m := by omega
    cases e : findL S.l m with
    | none =>
      rw [SpS.take_none hm e]
      rw [findV_none e] at HF
      have H : Hid (Sp w s t S) := h
      clear h e hm
      go_enter Try.func12, Try.ntmps12
      go_wp2_with fail
      refine HF.mono ?_
      rintro e w' ⟨rfl, rfl⟩
      clear HF
      go_wp2_with fail
      exact bodyPost_ret (v := .tuple #[.int .i64 0, .int .i64 7]) (by simp [results, Try.results12, go_sem]) rfl ⟨rfl, H.out, Kp.refl _ _⟩
    | some a =>
      rw [SpS.take_some hm e]
      rw [findV_some e] at HF
      have HS := oZSet w h a m true (findL_spec e).1
      clear h e hm
      go_enter Try.func12, Try.ntmps12
      go_wp2_with fail
      refine HF.mono ?_
      rintro e w' ⟨rfl, rfl⟩
      clear HF
      go_wp2_with fail
      refine HS.mono ?_
      rintro e w' ⟨rfl, hS, hK⟩
      clear HS
      go_wp2_with fail
      exact bodyPost_ret (v := .tuple #[.int .i64 (a : Int), .int .i64 0]) (by simp [results, Try.results12, go_sem]) rfl ⟨rfl, hS, hK⟩

end Go.Proofs.Ytcmbkpdefbaakaa
