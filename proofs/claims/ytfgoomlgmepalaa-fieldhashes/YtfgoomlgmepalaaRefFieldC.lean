/-
  The contracts of layer 5's reference's Bytes and Hash. Condition: rows of 128 bits; at most 1000 bytes.
-/
import Derived.Test.YtfgoomlgmepalaaRefFieldB
import Derived.Test.YtfgoomlgmepalaaCut
namespace Go.Proofs.Ytfgoomlgmepalaa
open Go.RowKit

/-- The bytes of an element, behind so many bits. -/
def byS (a : Fe) : Nat → List UInt8
  | 0 => List.replicate 16 0
  | i + 1 => if a.getLsbD i then (byS a i).set (i / 8) ((byS a i).getD (i / 8) 0 ||| (1 <<< UInt8.ofNat (7 - i % 8))) else byS a i
def byF (a : Fe) : List UInt8 := byS a 128
theorem byS_length (a : Fe) (i : Nat) : (byS a i).length = 16 := by
  induction i with
  | zero => rfl
  | succ i ih =>
    rw [byS]
    split
    · rw [List.length_set, ih]
    · exact ih
theorem shl_one {s : Nat} (h : s < 8) : (1 : Int) * (2 : Int) ^ s % 256 = ((1 <<< UInt8.ofNat s : UInt8).toNat : Int) := b_shl 1 s h
theorem pow_byte {s : Nat} (h : s < 8) : (2 : Int) ^ s = ((1 <<< UInt8.ofNat s : UInt8).toNat : Int) := by
  have : ∀ i : Fin 8, (2 : Int) ^ i.val = ((1 <<< UInt8.ofNat i.val : UInt8).toNat : Int) := by decide +kernel
  exact this ⟨s, h⟩

set_option maxRecDepth 100000 in
set_option maxHeartbeats 1000000 in
theorem rBytesF (w : World) {pa : Option Addr} {ca : Nat} {a : Fe} (ha : Bo w pa 128 ca (fb a)) :
    Calls Try.prog 8 #[.slice pa 128 ca] w (Gives w (byF a)) := by
  obtain ⟨ba, oa, rfl, hal, hca⟩ := ha.at (by omega)
  clear ha
  go_enter Try.func8, Try.ntmps8
  go_wp2_with (at_make; go_must (refine wpList_mkn w rfl _ _ rfl w.heap.size 16 _ rfl rfl rfl (by omega) (Nat.le_refl _) ?_); intro g w1 hg hgl hown hb1)
  go_loopw [4] (fun i wr => ∃ k : Nat, k ≤ 128 ∧ i = .int .i64 k ∧ Own wr w.heap.size (.slice (some ⟨g, 0, none⟩) 16 16) (byS a k) ∧ Below w.heap.size w wr) (fun i _ => 128 - (intOf i).toNat)
  case atStart => exact ⟨0, by omega, rfl, hown, hb1⟩
  case round =>
    clear hown hb1
    obtain ⟨k, hk, rfl, ho, hb⟩ := hrel
    by_cases hlt : k < 128
    · have h0 : (0 : Int) ≤ (k : Int) := by omega
      have h8 : (k : Int) < 128 := by omega
      have c1 : wr.cell? ⟨ba, oa + k, none⟩ = some (.bool (a.getLsbD k)) := by rw [hb.cell (p := ⟨ba, oa + k, none⟩) hal, hca k hlt, fb_at a hlt]
      have HN : byS a (k + 1) = if a.getLsbD k then (byS a k).set (k / 8) ((byS a k).getD (k / 8) 0 ||| (1 <<< UInt8.ofNat (7 - k % 8))) else byS a k := rfl
      generalize a.getLsbD k = bit at c1 HN
      have t1 := quo8 k
      have t2 : (k : Int) / 8 = ((k / 8 : Nat) : Int) := by omega
      have t3 := rem8 k
      have t4 : (k : Int) % 8 = ((k % 8 : Nat) : Int) := by omega
      have q16 : k / 8 < 16 := by omega
      have m8 : k % 8 < 8 := by omega
      cases bit with
      | false =>
        have HN' : Hid (byS a (k + 1) = byS a k) := by show _ = _; rw [HN]; rfl
        clear HN
        go_wp2_with fail
        go_roundw
        case rel => exact ⟨k + 1, by omega, by go_num, by rw [HN'.out]; exact ho, hb⟩
        case measure => simp [intOf]; omega
      | true =>
        have HN' : byS a (k + 1) = (byS a k).set (k / 8) ((byS a k).getD (k / 8) 0 ||| (1 <<< UInt8.ofNat (7 - k % 8))) := by rw [HN]; rfl
        clear HN
        generalize k / 8 = q at *
        generalize k % 8 = m at *
        obtain ⟨s, hs⟩ : ∃ s, s = 7 - m := ⟨_, rfl⟩
        rw [← hs] at HN'
        have s0 : (7 : Int) - (m : Int) = (s : Int) := by omega
        have s0w : IntKind.i64.wrap ((7 : Int) - (m : Int)) = (s : Int) := by rw [IntKind.wrap_i64]; omega
        have s1 : (0 : Int) ≤ (s : Int) := by omega
        have q0 : (0 : Int) ≤ (q : Int) := by omega
        have q1 : (q : Int) < 16 := by omega
        have qw : IntKind.i64.wrap (q : Int) = (q : Int) := by rw [IntKind.wrap_i64]; omega
        have hlen := byS_length a k
        have d1 : wr.cell? ⟨g, q, none⟩ = some (.int .u8 ((byS a k).getD q 0).toNat) := by
          obtain ⟨_, _, e, hc⟩ := ho.toBs.2.2.2.2 q q16
          simp only [Option.some.injEq, Addr.mk.injEq, and_true] at e
          obtain ⟨rfl, rfl⟩ := e
          rw [Nat.zero_add] at hc
          exact hc
        have f1 := ho.free hlen q
        have o2 := ho.set hlen q ((byS a k).getD q 0 ||| (1 <<< UInt8.ofNat s))
        rw [← HN'] at o2
        have p1 := pow_byte (s := s) (by omega)
        have p2 := shl_one (s := s) (by omega)
        have p3 : (2 : Int) ^ s % 256 = ((1 <<< UInt8.ofNat s : UInt8).toNat : Int) := by rw [Int.one_mul] at p2; exact p2
        generalize (byS a k).getD q 0 = y at d1 o2
        generalize (1 <<< UInt8.ofNat s : UInt8) = z at *
        have p4 := b_or y z
        rw [← p4] at o2
        have O2 : Hid _ := o2
        clear o2 HN' hs p4
        go_wp2_with fail
        go_region
        go_wp2_with fail
        go_roundw
        case rel => exact ⟨k + 1, by omega, by go_num, O2.out, (hb.setCell (by simpa using hg) _).drew⟩
        case measure => simp [intOf]; omega
    · obtain rfl : k = 128 := by omega
      go_wp2_with fail
      go_ret
      exact Gives.mk ho hb

end Go.Proofs.Ytfgoomlgmepalaa
