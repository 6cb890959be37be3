/-
  The contracts of the reference's constants and of its round: eight words, a constant and a word, the words behind the round. No condition.
-/
import Derived.Test.YtpmdjailpdajkaaDoorRound
namespace Go.Proofs.YtpmdjailpdajkaaDoor
open Go.RowKit

/-- What a call that hands back words in new memory leaves. -/
def HasW (w : World) (l : List UInt32) (e : Ending) (w' : World) : Prop := ∃ a c, e = .returned (.slice a l.length c) ∧ Ws w' a l.length c l ∧ Below w.heap.size w w'

theorem rConst (w : World) : Calls Tryd.prog 28 #[] w (HasW w sKs) := by
  go_enter Tryd.func28, Tryd.ntmps28
  go_wp2
  go_ret
  exact ⟨_, _, rfl, Ws.made w sKs _ rfl (by decide), below_alloc _ _⟩

theorem Ws.eight {w : World} {a : Option Addr} {c : Nat} {v0 v1 v2 v3 v4 v5 v6 v7 : UInt32} (h : Ws w a 8 c [v0, v1, v2, v3, v4, v5, v6, v7]) : ∃ b o, a = some ⟨b, o, none⟩ ∧
    w.cell? ⟨b, o, none⟩ = some (.int .u32 (v0.toNat : Int)) ∧ w.cell? ⟨b, o + 1, none⟩ = some (.int .u32 (v1.toNat : Int)) ∧ w.cell? ⟨b, o + 2, none⟩ = some (.int .u32 (v2.toNat : Int)) ∧ w.cell? ⟨b, o + 3, none⟩ = some (.int .u32 (v3.toNat : Int)) ∧
      w.cell? ⟨b, o + 4, none⟩ = some (.int .u32 (v4.toNat : Int)) ∧ w.cell? ⟨b, o + 5, none⟩ = some (.int .u32 (v5.toNat : Int)) ∧ w.cell? ⟨b, o + 6, none⟩ = some (.int .u32 (v6.toNat : Int)) ∧ w.cell? ⟨b, o + 7, none⟩ = some (.int .u32 (v7.toNat : Int)) := by
  obtain ⟨b, o, ha, _, hc⟩ := h.at (by omega)
  exact ⟨b, o, ha, hc 0 (by omega), hc 1 (by omega), hc 2 (by omega), hc 3 (by omega), hc 4 (by omega), hc 5 (by omega), hc 6 (by omega), hc 7 (by omega)⟩

/-- Turned right, by a number as the program has it. -/
def rotI (x : UInt32) (n : Int) : UInt32 := rot x (UInt32.ofNat n.toNat)
theorem rTurnI (w : World) (x : UInt32) (n : Int) (h : 1 ≤ n ∧ n ≤ 31) :
    Calls Tryd.prog 38 #[.int .u32 (x.toNat : Int), .int .u64 n] w fun e w' => e = .returned (.int .u32 ((rotI x n).toNat : Int)) ∧ w' = w := by
  have e : n = (n.toNat : Int) := by omega
  have := rTurn w x n.toNat (by omega) (by omega)
  rw [← e] at this
  exact this.mono fun _ _ ⟨h1, h2⟩ => ⟨h1, h2.symm⟩

theorem bgE_ref (e : UInt32) : bits .xor .u32 (bits .xor .u32 ((rotI e 6).toNat : Int) ((rotI e 11).toNat : Int)) ((rotI e 25).toNat : Int) = ((bgE e).toNat : Int) := by rw [w_xor, w_xor]; rfl
theorem bgA_ref (a : UInt32) : bits .xor .u32 (bits .xor .u32 ((rotI a 2).toNat : Int) ((rotI a 13).toNat : Int)) ((rotI a 22).toNat : Int) = ((bgA a).toNat : Int) := by rw [w_xor, w_xor]; rfl
theorem max32' : (4294967295 : Int) = (((4294967295 : UInt32)).toNat : Int) := rfl
theorem pick_ref (e f g : UInt32) : bits .xor .u32 (bits .and .u32 (e.toNat : Int) (f.toNat : Int)) (bits .and .u32 (bits .xor .u32 4294967295 (e.toNat : Int)) (g.toNat : Int)) = ((pck e f g).toNat : Int) := by
  rw [max32', w_xor, w_and, w_and, w_xor]; rfl
theorem most_ref (a b c : UInt32) : bits .xor .u32 (bits .xor .u32 (bits .and .u32 (a.toNat : Int) (b.toNat : Int)) (bits .and .u32 (a.toNat : Int) (c.toNat : Int))) (bits .and .u32 (b.toNat : Int) (c.toNat : Int)) = ((mst a b c).toNat : Int) := by
  rw [w_and, w_and, w_and, w_xor, w_xor]; rfl

theorem ref_one (a b c e f g z k x : UInt32) : ((z.toNat : Int) + ((bgE e).toNat : Int) + ((pck e f g).toNat : Int) + (k.toNat : Int) + (x.toNat : Int) + ((bgA a).toNat : Int) + ((mst a b c).toNat : Int)) % 4294967296 = ((tOne e f g z (k + x) + (bgA a + mst a b c)).toNat : Int) := by
  simp only [tOne, UInt32.toNat_add]
  omega
theorem ref_five (d e f g z k x : UInt32) : ((d.toNat : Int) + ((z.toNat : Int) + ((bgE e).toNat : Int) + ((pck e f g).toNat : Int) + (k.toNat : Int) + (x.toNat : Int))) % 4294967296 = ((d + tOne e f g z (k + x)).toNat : Int) := by
  simp only [tOne, UInt32.toNat_add]
  omega

set_option maxHeartbeats 2000000 in
theorem rRound (w : World) {ad : Option Addr} {cp : Nat} (a b c d e f g z k x : UInt32) (hv : Ws w ad 8 cp [a, b, c, d, e, f, g, z]) :
    Calls Tryd.prog 31 #[.slice ad 8 cp, .int .u32 (k.toNat : Int), .int .u32 (x.toNat : Int)] w (HasW w (rnd [a, b, c, d, e, f, g, z] (k + x))) := by
  obtain ⟨bl, o, rfl, q0, q1, q2, q3, q4, q5, q6, q7⟩ := hv.eight
  clear hv
  go_enter Tryd.func31, Tryd.ntmps31
  go_wp2_with fail
  go_quiet ((go_at_call 38; exact Calls.quiet_of_same (rTurnI _ _ _ (by decide))))
  go_wp2_with fail
  go_quiet (fail)
  go_wp2_with fail
  rw [bgE_ref, pick_ref]
  generalize hw1 : w.drewN _ = w1
  have hb : Below w.heap.size w w1 := by rw [← hw1]; exact below_drewN' w _
  have s0 : w1.cell? ⟨bl, o, none⟩ = some (.int .u32 (a.toNat : Int)) := by rw [← hw1]; exact q0
  have s1 : w1.cell? ⟨bl, o + 1, none⟩ = some (.int .u32 (b.toNat : Int)) := by rw [← hw1]; exact q1
  have s2 : w1.cell? ⟨bl, o + 2, none⟩ = some (.int .u32 (c.toNat : Int)) := by rw [← hw1]; exact q2
  have s3 : w1.cell? ⟨bl, o + 3, none⟩ = some (.int .u32 (d.toNat : Int)) := by rw [← hw1]; exact q3
  have s4 : w1.cell? ⟨bl, o + 4, none⟩ = some (.int .u32 (e.toNat : Int)) := by rw [← hw1]; exact q4
  have s5 : w1.cell? ⟨bl, o + 5, none⟩ = some (.int .u32 (f.toNat : Int)) := by rw [← hw1]; exact q5
  have s6 : w1.cell? ⟨bl, o + 6, none⟩ = some (.int .u32 (g.toNat : Int)) := by rw [← hw1]; exact q6
  clear hw1 q0 q1 q2 q3 q4 q5 q6 q7
  go_quiet ((go_at_call 38; exact Calls.quiet_of_same (rTurnI _ _ _ (by decide))))
  go_wp2_with fail
  go_quiet (fail)
  go_wp2_with fail
  rw [bgA_ref, most_ref]
  go_region
  rw [ref_one, ref_five]
  generalize hw2 : w1.drewN _ = w2
  have hb2 : Below w.heap.size w w2 := by rw [← hw2]; exact below_drN hb _
  have hsz : w2.heap.size = w1.heap.size := by rw [← hw2]; rfl
  have hm := Ws.made w2 (rnd [a, b, c, d, e, f, g, z] (k + x)) #[.int .u32 ((tOne e f g z (k + x) + (bgA a + mst a b c)).toNat : Int), .int .u32 (a.toNat : Int), .int .u32 (b.toNat : Int), .int .u32 (c.toNat : Int), .int .u32 ((d + tOne e f g z (k + x)).toNat : Int), .int .u32 (e.toNat : Int), .int .u32 (f.toNat : Int), .int .u32 (g.toNat : Int)] rfl (by simp [rnd])
  rw [hsz] at hm
  generalize tOne e f g z (k + x) + (bgA a + mst a b c) = T1 at hm ⊢
  generalize d + tOne e f g z (k + x) = T5 at hm ⊢
  have HM : Hid (Ws (w2.alloc (.cells #[.int .u32 (T1.toNat : Int), .int .u32 (a.toNat : Int), .int .u32 (b.toNat : Int), .int .u32 (c.toNat : Int), .int .u32 (T5.toNat : Int), .int .u32 (e.toNat : Int), .int .u32 (f.toNat : Int), .int .u32 (g.toNat : Int)] 52)) (some ⟨w1.heap.size, 0, none⟩) 8 8 (rnd [a, b, c, d, e, f, g, z] (k + x))) := hm
  clear hw2 hsz hm
  go_wp2_with fail
  go_ret
  exact ⟨_, _, rfl, HM.out, hb2.alloc hb2.size _⟩

end Go.Proofs.YtpmdjailpdajkaaDoor
